package wire

import "trolley/api"

// cursor goes through bytes that it may share. Where it can't go on it gives up by a panic with the error's number, so that no step has to hand errors on; attempt catches it.
type cursor struct {
	b  []byte
	at int
}

// attempt is where the faces catch a step that gives up; another panic is no giving up, and goes on.
func attempt(step func()) (why api.Errno) {
	defer func() {
		switch x := recover().(type) {
		case nil:
		case api.Errno:
			why = x
		default:
			panic(x)
		}
	}()
	step()
	return api.OK
}

func (c *cursor) left() int { return len(c.b) - c.at }

// take hands out a piece of the cursor's bytes: who keeps it has to copy it.
func (c *cursor) take(n int) []byte {
	if n > c.left() {
		panic(api.ErrShort)
	}
	c.at += n
	return c.b[c.at-n : c.at]
}

func (c *cursor) number() int {
	n := 0
	for i := range maxBytes {
		x := int(c.take(1)[0])
		if x == 0 && i > 0 {
			panic(api.ErrForm)
		}
		n |= x % more << (groupBits * i)
		if x < more {
			return n
		}
	}
	panic(api.ErrRange)
}

func (c *cursor) text(most int) string {
	n := c.number()
	if n > max(most, 0) {
		panic(api.ErrLong)
	}
	return string(c.take(n))
}

// Reader goes through bytes.
type Reader struct {
	made   bool // tells one that Over made from a plain one
	cursor cursor
}

// Over is one at the beginning of bytes.
func Over(b []byte) *Reader {
	return &Reader{made: true, cursor: cursor{b: copied(b, 0)}}
}

// read takes back what a step that gave up had read.
func (r *Reader) read(step func(c *cursor)) api.Errno {
	if r == nil || !r.made {
		return api.ErrNil
	}
	at := r.cursor.at
	why := attempt(func() { step(&r.cursor) })
	if why != api.OK {
		r.cursor.at = at
	}
	return why
}

// At, Left: how many bytes were read, and are left.
func (r *Reader) At() int {
	if r == nil {
		return 0
	}
	return r.cursor.at
}

func (r *Reader) Left() int {
	if r == nil {
		return 0
	}
	return r.cursor.left()
}

// Uint is a number, Byte a byte, Text a text of at most so many bytes.
func (r *Reader) Uint() (int, api.Errno) {
	n := 0
	why := r.read(func(c *cursor) { n = c.number() })
	return n, why
}

func (r *Reader) Byte() (int, api.Errno) {
	n := 0
	why := r.read(func(c *cursor) { n = int(c.take(1)[0]) })
	return n, why
}

func (r *Reader) Text(most int) (string, api.Errno) {
	s := ""
	why := r.read(func(c *cursor) { s = c.text(most) })
	return s, why
}

// End tells that nothing is left.
func (r *Reader) End() api.Errno {
	return r.read(func(c *cursor) {
		if c.left() > 0 {
			panic(api.ErrMore)
		}
	})
}
