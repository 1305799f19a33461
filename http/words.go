package http

import (
	"strings"

	"trolley/api"
)

const (
	maxToken  = 64
	maxDigits = 9 // of a body's length
	signs     = "!#$%&'*+-.^_`|~"
	blanks    = " \t"
)

func isDigit(c byte) bool   { return '0' <= c && c <= '9' }
func isCapital(c byte) bool { return 'A' <= c && c <= 'Z' }
func isSmall(c byte) bool   { return 'a' <= c && c <= 'z' }
func isSeen(c byte) bool    { return '!' <= c && c <= '~' }

// all tells whether each byte of a text is of a kind.
func all(s string, is func(c byte) bool) bool {
	for _, c := range []byte(s) {
		if !is(c) {
			return false
		}
	}
	return true
}

func isToken(s string) bool {
	return len(s) >= 1 && len(s) <= maxToken && all(s, func(c byte) bool {
		return isSmall(c) || isCapital(c) || isDigit(c) || strings.IndexByte(signs, c) >= 0
	})
}

// isValue lets blanks and tabs stand anywhere but at the ends.
func isValue(s string) bool {
	return len(s) <= api.MaxValue && trimmed(s) == s && all(s, func(c byte) bool {
		return isSeen(c) || strings.IndexByte(blanks, c) >= 0
	})
}

func trimmed(s string) string { return strings.Trim(s, blanks) }

func areDigits(s string) bool {
	return len(s) >= 1 && len(s) <= maxDigits && all(s, isDigit)
}

// small has small letters in the place of capitals. Other bytes stay, whatever letters they may be parts of: the library's ToLower makes a k of the kelvin sign.
func small(s string) string {
	b := []byte(s)
	for i, c := range b {
		if isCapital(c) {
			b[i] = c - 'A' + 'a'
		}
	}
	return string(b)
}

// isWritten tells of a header that is read in many forms whether this is the one in which it is written.
func isWritten(h api.Header) bool {
	return isToken(h.Name) && small(h.Name) == h.Name && isValue(h.Value)
}

// headOf is the bytes ahead of a head's end: a first line, and headers.
func headOf(first string, l []api.Header) string {
	lines := []string{first}
	for _, h := range l {
		lines = append(lines, h.Name+colon+h.Value)
	}
	return strings.Join(lines, newLine)
}
