// Package names tells which texts are names: of keys, of items, of files. They keep to one rule, so that it stands in one place, below the layers.
package names

import "trolley/api"

// Can tells whether a text may be a name.
func Can(s string) bool {
	if len(s) < 1 || len(s) > api.MaxName {
		return false
	}
	for _, c := range []byte(s) {
		if !canByte(c) {
			return false
		}
	}
	return true
}

func canByte(c byte) bool {
	switch {
	case 'a' <= c && c <= 'z', 'A' <= c && c <= 'Z', '0' <= c && c <= '9':
		return true
	}
	return c == '.' || c == '-' || c == '_'
}
