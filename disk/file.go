package disk

import "trolley/api"

// file is what was written of a file; the first so many bytes are synced.
type file struct {
	bytes  []byte
	synced int
}

func isName(name string) bool {
	if len(name) < 1 || len(name) > api.MaxName {
		return false
	}
	for _, c := range []byte(name) {
		if !isNameByte(c) {
			return false
		}
	}
	return true
}

func isNameByte(c byte) bool {
	switch {
	case 'a' <= c && c <= 'z', 'A' <= c && c <= 'Z', '0' <= c && c <= '9':
		return true
	}
	return c == '.' || c == '-' || c == '_'
}

func (f *file) copied() *file {
	return &file{bytes: append([]byte{}, f.bytes...), synced: f.synced}
}

// canTear takes Keep away instead of adding it up, since a huge one would wrap round.
func (f *file) canTear(t api.Tear) bool {
	loose := len(f.bytes) - f.synced
	return t.Keep >= 0 && len(t.Junk) <= loose-t.Keep
}

// tear writes no byte of t.Junk's own memory, and keeps none: it is copied behind what is kept.
func (f *file) tear(t api.Tear) {
	f.bytes = append(f.bytes[:f.synced+t.Keep], t.Junk...)
	f.synced = len(f.bytes)
}
