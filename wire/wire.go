// Package wire is layer 1: see ../../shared/doc/01-wire.md.
package wire

import (
	"bytes"

	"trolley/api"
)

const (
	groupBits = 7              // bits of a number in each byte
	more      = 1 << groupBits // added to each byte of a number but its last
	maxBytes  = 9              // bytes of a number: 9 times 7 bits are all that an int above 0 has
	sumBytes  = 4
	sumTurn   = 0xedb88320
)

// Put puts a number behind bytes, Text a text.
func Put(b []byte, n int) []byte {
	return putNumber(copied(b, maxBytes), n)
}

func Text(b []byte, s string) []byte {
	return append(putNumber(copied(b, maxBytes+len(s)), len(s)), s...)
}

// copied has room behind, so that what is put there moves nothing once more.
func copied(b []byte, room int) []byte {
	return append(make([]byte, 0, len(b)+room), b...)
}

// putNumber appends in place: b is the caller's own.
func putNumber(b []byte, n int) []byte {
	n = max(n, 0)
	for n >= more {
		b = append(b, byte(n%more+more))
		n /= more
	}
	return append(b, byte(n))
}

// Sum is a check sum.
func Sum(b []byte) int {
	c := ^uint32(0)
	for _, x := range b {
		c ^= uint32(x)
		for range 8 {
			c = c>>1 ^ sumTurn*(c&1)
		}
	}
	return int(^c)
}

// sumForm is the sum's bytes as they stand in a frame, the lowest first.
func sumForm(b []byte) []byte {
	s := Sum(b)
	return []byte{byte(s), byte(s >> 8), byte(s >> 16), byte(s >> 24)}
}

// Frame is bytes with how many they are ahead, and their sum behind; Unframe the first frame's bytes of some, and what is behind it.
func Frame(b []byte) ([]byte, api.Errno) {
	if len(b) > api.MaxFrame {
		return nil, api.ErrLong
	}
	f := putNumber(make([]byte, 0, maxBytes+len(b)+sumBytes), len(b))
	f = append(f, b...)
	return append(f, sumForm(b)...), api.OK
}

func Unframe(b []byte) ([]byte, []byte, api.Errno) {
	c := cursor{b: b}
	var payload []byte
	why := attempt(func() { payload = c.frame() })
	if why != api.OK {
		return nil, nil, why
	}
	return copied(payload, 0), copied(b[c.at:], 0), api.OK
}

// frame gives up where no frame stands.
func (c *cursor) frame() []byte {
	n := c.number()
	if n > api.MaxFrame {
		panic(api.ErrLong)
	}
	payload := c.take(n)
	if !bytes.Equal(c.take(sumBytes), sumForm(payload)) {
		panic(api.ErrSum)
	}
	return payload
}
