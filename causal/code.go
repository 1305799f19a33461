package causal

import (
	"slices"

	"trolley/api"
	"trolley/wire"
)

// Encode puts a context's bytes behind some, Decode reads them.
func Encode(b []byte, c api.Context) ([]byte, api.Errno) {
	if !Can(c) {
		return nil, api.ErrDots
	}
	code := putNumbers(nil, len(c.Marks))
	for _, m := range c.Marks {
		code = putNumbers(code, m.Node, m.Life, m.Count)
	}
	code = putNumbers(code, len(c.Cloud))
	for _, d := range c.Cloud {
		code = putNumbers(code, d.Node, d.Life, d.Count)
	}
	return slices.Concat(b, code), api.OK
}

// putNumbers appends in place: b is the caller's own.
func putNumbers(b []byte, numbers ...int) []byte {
	for _, n := range numbers {
		b = append(b, wire.Put(nil, n)...)
	}
	return b
}

// Decode reads with a copy of the reader, which goes on by itself, so that r has not moved where there is an error.
func Decode(r *wire.Reader) (api.Context, api.Errno) {
	if r == nil {
		return api.Context{}, api.ErrNil
	}
	ahead := *r
	s := source{r: &ahead}
	c := s.context()
	if s.why == api.OK && !Can(c) {
		s.why = api.ErrDots
	}
	if s.why != api.OK {
		return api.Context{}, s.why
	}
	*r = ahead
	return c, api.OK
}

// source reads numbers up to the first error. That one stays, and all numbers behind it are 0, so that only who has read everything needs to ask for it.
type source struct {
	r   *wire.Reader
	why api.Errno
}

func (s *source) number() int {
	if s.why != api.OK {
		return 0
	}
	n, e := s.r.Uint()
	s.why = e
	return n
}

// length is how many there are of something of which there may be so many.
func (s *source) length(most int) int {
	n := s.number()
	if n > most {
		s.why = api.ErrLong
		return 0
	}
	return n
}

func (s *source) dot() api.Dot {
	node := s.number()
	life := s.number()
	count := s.number()
	return api.Dot{Node: node, Life: life, Count: count}
}

func (s *source) context() api.Context {
	var c api.Context
	for range s.length(api.MaxMarks) {
		c.Marks = append(c.Marks, api.Mark(s.dot()))
	}
	for range s.length(api.MaxCloud) {
		c.Cloud = append(c.Cloud, s.dot())
	}
	return c
}
