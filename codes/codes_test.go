package codes_test

import (
	"bytes"
	"math"
	"strings"
	"testing"

	"trolley/api"
	"trolley/codes"
	"trolley/wire"
)

func TestPut(t *testing.T) {
	b := codes.Numbers([]byte{7}, 0, 127, 128)
	b = codes.Dot(b, api.Dot{Node: 1, Life: 2, Count: 3})
	b = codes.Text(b, "ab")
	b = codes.Word(b, 0x0102030405060708)
	want := []byte{7, 0, 127, 0x80, 1, 1, 2, 3, 2, 'a', 'b', 8, 7, 6, 5, 4, 3, 2, 1}
	if !bytes.Equal(b, want) {
		t.Errorf("%x, want %x", b, want)
	}
	if b := codes.Numbers(nil); len(b) != 0 {
		t.Errorf("no numbers: %x", b)
	}
}

func TestThereAndBack(t *testing.T) {
	words := []uint64{0, 1, 0xff, 1 << 63, math.MaxUint64, 0x123456789abcdef0}
	numbers := []int{0, 1, 64, 127, 128, math.MaxInt}
	texts := []string{"", "a", strings.Repeat("\x80", 200)}
	dot := api.Dot{Node: 5, Life: 1 << 30, Count: 9}
	var b []byte
	for i, w := range words {
		b = codes.Word(codes.Numbers(b, numbers[i]), w)
		b = codes.Text(codes.Dot(b, dot), texts[i%3])
	}
	r := wire.Over(b)
	s := codes.From(r)
	for i, w := range words {
		if n := s.Length(numbers[i]); n != numbers[i] {
			t.Errorf("the number %d: %d", numbers[i], n)
		}
		if got := s.Word(); got != w {
			t.Errorf("the word %x: %x", w, got)
		}
		if got := s.Dot(); got != dot {
			t.Errorf("the dot: %v", got)
		}
		if text := s.Text(200); text != texts[i%3] {
			t.Errorf("the text %q: %q", texts[i%3], text)
		}
	}
	if s.Why() != api.OK || r.End() != api.OK {
		t.Errorf("the end: %v, %v", s.Why(), r.End())
	}
}

// The first error stays, and what is read behind it is nought.
func TestFirstError(t *testing.T) {
	full := bytes.Repeat([]byte{1}, 40)
	cases := []struct {
		why  string
		code []byte
		read func(s *codes.Source)
		want api.Errno
	}{
		{"a number that ends", nil, func(s *codes.Source) { s.Number() }, api.ErrShort},
		{"another form", append([]byte{0x80, 0}, full...), func(s *codes.Source) { s.Number() }, api.ErrForm},
		{"more than there may be", append([]byte{3}, full...), func(s *codes.Source) { s.Length(2) }, api.ErrLong},
		{"a text that is too long", append([]byte{3}, full...), func(s *codes.Source) { s.Text(2) }, api.ErrLong},
		{"a text that ends", []byte{3, 'a'}, func(s *codes.Source) { s.Text(3) }, api.ErrShort},
		{"a word that ends", full[:7], func(s *codes.Source) { s.Word() }, api.ErrShort},
		{"a dot that ends", full[:2], func(s *codes.Source) { s.Dot() }, api.ErrShort},
	}
	for _, c := range cases {
		s := codes.From(wire.Over(c.code))
		c.read(s)
		at := s.Why()
		if s.Number() != 0 || s.Length(9) != 0 || s.Text(9) != "" || s.Word() != 0 || s.Dot() != (api.Dot{}) {
			t.Errorf("%s: something is read behind", c.why)
		}
		if at != c.want || s.Why() != c.want {
			t.Errorf("%s: %v, then %v; want %v", c.why, at, s.Why(), c.want)
		}
	}
	s := codes.From(wire.Over(full[:7]))
	if w := s.Word(); w != 0 {
		t.Errorf("half a word: %x", w)
	}
	s = codes.From(wire.Over([]byte{3}))
	if n := s.Length(2); n != 0 {
		t.Errorf("more than there may be: %d", n)
	}
	if s := codes.From(nil); s.Number() != 0 || s.Why() != api.ErrNil {
		t.Errorf("no reader: %v", s.Why())
	}
}
