// Package codes writes and reads what more than one layer keeps as bytes of wire's: numbers one behind another, dots, words of 64 bits.
package codes

import (
	"trolley/api"
	"trolley/wire"
)

const wordBytes = 8

// What is put is appended in place: b is the caller's own.

// Numbers puts numbers behind bytes, Dot a dot's, Text a text, Word a word, its lowest byte first.
func Numbers(b []byte, numbers ...int) []byte {
	for _, n := range numbers {
		b = append(b, wire.Put(nil, n)...)
	}
	return b
}

func Dot(b []byte, d api.Dot) []byte { return Numbers(b, d.Node, d.Life, d.Count) }

func Text(b []byte, s string) []byte { return append(b, wire.Text(nil, s)...) }

func Word(b []byte, w uint64) []byte {
	for i := range wordBytes {
		b = append(b, byte(w>>(8*i)))
	}
	return b
}

// Source reads up to the first error. That one stays, and all that is read behind it is nought or empty, so that only who has read everything needs to ask for it.
type Source struct {
	r   *wire.Reader
	why api.Errno
}

// From is one that reads on where a reader stands, and moves it.
func From(r *wire.Reader) *Source { return &Source{r: r} }

// Why is the first error.
func (s *Source) Why() api.Errno { return s.why }

// take takes a step of the reader's, unless there was an error ahead.
func take[T any](s *Source, step func() (T, api.Errno)) T {
	var taken T
	if s.why == api.OK {
		taken, s.why = step()
	}
	return taken
}

// Number is a number, Length how many there are of something of which there may be so many, Dot a dot's numbers.
func (s *Source) Number() int { return take(s, s.r.Uint) }

func (s *Source) Length(most int) int {
	n := s.Number()
	if n > most {
		s.why = api.ErrLong
		return 0
	}
	return n
}

func (s *Source) Dot() api.Dot {
	node := s.Number()
	life := s.Number()
	count := s.Number()
	return api.Dot{Node: node, Life: life, Count: count}
}

// Text is a text of at most so many bytes, Word a word.
func (s *Source) Text(most int) string {
	return take(s, func() (string, api.Errno) { return s.r.Text(most) })
}

func (s *Source) Word() uint64 {
	var w uint64
	for i := range wordBytes {
		w |= uint64(take(s, s.r.Byte)) << (8 * i)
	}
	if s.why != api.OK {
		return 0
	}
	return w
}
