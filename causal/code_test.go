package causal_test

import (
	"bytes"
	"math"
	"slices"
	"testing"

	"trolley/api"
	"trolley/causal"
	"trolley/wire"
)

func TestP3_3Encode(t *testing.T) {
	for _, c := range rightContexts() {
		for _, b := range [][]byte{nil, {}, {7}, []byte("what stands ahead")} {
			got, e := causal.Encode(b, c)
			if e != api.OK || !bytes.Equal(got, slices.Concat(b, codeOf(c))) {
				t.Errorf("Encode(%x, %v): %x, %v", b, c, got, e)
			}
		}
	}
	b, e := causal.Encode([]byte{9}, sample())
	want := []byte{9, 2, 0, 1, 3, 2, 5, 1, 3, 0, 1, 5, 0, 1, 6, 1, 1, 2}
	if e != api.OK || !bytes.Equal(b, want) {
		t.Errorf("the code: %x, %v", b, e)
	}
}

func TestP3_3EncodeMemory(t *testing.T) {
	b := append(make([]byte, 0, 64), "ab"...)
	c := api.Context{Marks: append(make([]api.Mark, 0, 9), sample().Marks...), Cloud: append(make([]api.Dot, 0, 9), sample().Cloud...)}
	got, e := causal.Encode(b, c)
	ok(t, "Encode", e)
	if !bytes.Equal(b[:64], append([]byte("ab"), make([]byte, 62)...)) || !same(c, sample()) || c.Marks[:3][2] != (api.Mark{}) {
		t.Error("Encode changes what is handed in")
	}
	for i := range got {
		got[i] = 'w'
	}
	if string(b) != "ab" {
		t.Error("Encode answers what is handed in")
	}
	if b, e := causal.Encode(b, cloud(dot(0, 1, 1))); e != api.ErrDots || len(b) != 0 {
		t.Errorf("behind bytes, of one that can't be: %x, %v", b, e)
	}
}

func TestP3_3Decode(t *testing.T) {
	for _, c := range rightContexts() {
		for _, behind := range [][]byte{nil, {0}, {0x80, 0}, codeOf(sample())} {
			code := codeOf(c)
			r := wire.Over(slices.Concat([]byte{5}, code, behind))
			r.Byte()
			got, e := causal.Decode(r)
			if e != api.OK || !same(got, c) || r.At() != 1+len(code) || r.Left() != len(behind) {
				t.Errorf("Decode of %v: %v, %v, at %d", c, got, e, r.At())
			}
		}
	}
}

// refused reads bytes that are to be no code, and looks whether the reader has moved.
func refused(t *testing.T, what string, code []byte, want api.Errno) {
	t.Helper()
	r := wire.Over(append([]byte{5}, code...))
	r.Byte()
	c, e := causal.Decode(r)
	if e != want || !isEmpty(c) || r.At() != 1 || r.Left() != len(code) {
		t.Errorf("%s: %v, %v, at %d; want %v", what, c, e, r.At(), want)
	}
	for _, x := range code {
		if y, e := r.Byte(); y != int(x) || e != api.OK {
			t.Fatalf("%s: a byte behind the error: %d, %v", what, y, e)
		}
	}
}

func TestP3_3DecodeErrors(t *testing.T) {
	number := func(n int) []byte { return wire.Put(nil, n) }
	zeros, ranges := []byte{0x80, 0}, bytes.Repeat([]byte{0x80}, 9)
	wrongMark := []byte{9, 9, 9}
	cases := []struct {
		what string
		code []byte
		want api.Errno
	}{
		{"nothing", nil, api.ErrShort},
		{"no number of dots", []byte{0}, api.ErrShort},
		{"half a number", []byte{0x80}, api.ErrShort},
		{"another form", zeros, api.ErrForm},
		{"a number that is too long", ranges, api.ErrRange},
		{"one mark too many, and nothing behind", number(api.MaxMarks + 1), api.ErrLong},
		{"one mark too many, and another form behind", append(number(api.MaxMarks+1), zeros...), api.ErrLong},
		{"very many marks", number(math.MaxInt), api.ErrLong},
		{"the most marks, and nothing behind", number(api.MaxMarks), api.ErrShort},
		{"one dot too many, and nothing behind", append([]byte{0}, number(api.MaxCloud+1)...), api.ErrLong},
		{"very many dots", append([]byte{0}, number(math.MaxInt)...), api.ErrLong},
		{"the most dots, and nothing behind", append([]byte{0}, number(api.MaxCloud)...), api.ErrShort},
		{"another form in a mark", []byte{1, 0, 1, 0x81, 0, 0}, api.ErrForm},
		{"a number that is too long in a mark", slices.Concat([]byte{1, 0}, ranges, []byte{1, 1, 0}), api.ErrRange},
		{"another form in a dot", []byte{0, 1, 0x80, 0, 1, 2}, api.ErrForm},
		{"another form of the number of dots", []byte{0, 0x80, 0}, api.ErrForm},
		{"a wrong mark", slices.Concat([]byte{1}, wrongMark, []byte{0}), api.ErrDots},
		{"a wrong mark, and an end", slices.Concat([]byte{1}, wrongMark), api.ErrShort},
		{"a wrong mark, and another form behind", slices.Concat([]byte{1}, wrongMark, zeros), api.ErrForm},
		{"a wrong mark, and too many dots", slices.Concat([]byte{1}, wrongMark, number(api.MaxCloud+1)), api.ErrLong},
		{"a wrong dot, and an end", []byte{0, 2, 9, 9, 9, 0, 1}, api.ErrShort},
		{"an end, and too many dots could follow", []byte{2, 0, 1, 1, 65}, api.ErrShort},
	}
	for _, c := range cases {
		refused(t, c.what, c.code, c.want)
	}
}

func TestP3_3DecodeOfWhatCantBe(t *testing.T) {
	for why, c := range wrongContexts() {
		below := func(d api.Dot) bool { return min(d.Node, d.Life, d.Count) < 0 }
		if slices.ContainsFunc(c.Cloud, below) || slices.ContainsFunc(c.Marks, func(m api.Mark) bool { return below(api.Dot(m)) }) {
			continue // no number can tell it
		}
		want := api.ErrDots
		if len(c.Marks) > api.MaxMarks || len(c.Cloud) > api.MaxCloud {
			want = api.ErrLong
		}
		refused(t, why, codeOf(c), want)
	}
}

func TestP3_3DecodeOfABeginning(t *testing.T) {
	for _, c := range rightContexts() {
		code := codeOf(c)
		for n := range code {
			refused(t, "a beginning", code[:n], api.ErrShort)
		}
	}
}

func TestP3_3DecodeAgain(t *testing.T) {
	r := wire.Over(slices.Concat(codeOf(sample()), []byte{65}, codeOf(fullest())))
	first, e := causal.Decode(r)
	at := r.At()
	if _, f := causal.Decode(r); e != api.OK || f != api.ErrLong || r.At() != at {
		t.Errorf("%v, %v, at %d", e, f, r.At())
	}
	if n, e := r.Uint(); n != 65 || e != api.OK {
		t.Errorf("the number behind: %d, %v", n, e)
	}
	second, e := causal.Decode(r)
	if e != api.OK || !same(first, sample()) || !same(second, fullest()) || r.End() != api.OK {
		t.Errorf("%v, %v, %v", first, second, e)
	}
	spoil(second)
	spoil(first)
}

func TestP3_3NoReader(t *testing.T) {
	for name, r := range map[string]*wire.Reader{"nil": nil, "plain": {}} {
		if c, e := causal.Decode(r); e != api.ErrNil || !isEmpty(c) {
			t.Errorf("%s: %v, %v", name, c, e)
		}
	}
}
