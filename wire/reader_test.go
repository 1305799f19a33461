package wire_test

import (
	"bytes"
	"encoding/binary"
	"math"
	"testing"

	"trolley/api"
	"trolley/wire"
)

// stands tells that a reader has read and has left so many bytes.
func stands(r *wire.Reader, at, left int) bool { return r.At() == at && r.Left() == left }

func TestP1_3Uint(t *testing.T) {
	for _, f := range forms {
		r := wire.Over(append(bytes.Clone(f.form), 0xff, 0))
		n, e := r.Uint()
		if n != f.n || e != api.OK || !stands(r, len(f.form), 2) {
			t.Errorf("%x: %d, %v, at %d", f.form, n, e, r.At())
		}
	}
}

func TestP1_3UintErrors(t *testing.T) {
	full := func(n int, behind ...byte) []byte { return append(bytes.Repeat([]byte{0x80}, n), behind...) }
	cases := []struct {
		b    []byte
		want api.Errno
	}{
		{nil, api.ErrShort},
		{[]byte{}, api.ErrShort},
		{full(1), api.ErrShort},
		{full(7), api.ErrShort},
		{full(8), api.ErrShort},
		{bytes.Repeat([]byte{0xff}, 8), api.ErrShort},
		{full(9), api.ErrRange},
		{full(9, 0), api.ErrRange},
		{full(9, 1), api.ErrRange},
		{full(10), api.ErrRange},
		{full(300), api.ErrRange},
		{bytes.Repeat([]byte{0xff}, 9), api.ErrRange},
		{full(1, 0), api.ErrForm},
		{full(1, 0, 5), api.ErrForm},
		{[]byte{0xff, 0}, api.ErrForm},
		{full(2, 0), api.ErrForm},
		{full(7, 0), api.ErrForm},
		{full(8, 0), api.ErrForm},
		{full(8, 0, 1), api.ErrForm},
	}
	for _, c := range cases {
		r := wire.Over(append([]byte{6}, c.b...))
		r.Uint()
		n, e := r.Uint()
		if n != 0 || e != c.want || !stands(r, 1, len(c.b)) {
			t.Errorf("%x: %d, %v, at %d; want %v", c.b, n, e, r.At(), c.want)
		}
	}
}

func TestP1_3Byte(t *testing.T) {
	r := wire.Over([]byte{0, 0x80, 0xff})
	for i, want := range []int{0, 0x80, 0xff} {
		if n, e := r.Byte(); n != want || e != api.OK || !stands(r, i+1, 2-i) {
			t.Errorf("byte %d: %d, %v", i, n, e)
		}
	}
	for range 2 {
		if n, e := r.Byte(); n != 0 || e != api.ErrShort || !stands(r, 3, 0) {
			t.Errorf("a byte behind the end: %d, %v", n, e)
		}
	}
}

func TestP1_3Text(t *testing.T) {
	cases := []struct {
		b    []byte
		most int
		want string
		read int
	}{
		{[]byte{2, 'a', 'b'}, 2, "ab", 3},
		{[]byte{2, 'a', 'b', 'c'}, 3, "ab", 3},
		{[]byte{3, 0, 0xff, 0x80}, math.MaxInt, "\x00\xff\x80", 4},
		{[]byte{0, 9}, 0, "", 1},
		{[]byte{0}, -1, "", 1},
		{[]byte{0}, math.MinInt, "", 1},
		{append([]byte{0x80, 1}, payload(128)...), 128, string(payload(128)), 130},
	}
	for _, c := range cases {
		r := wire.Over(c.b)
		s, e := r.Text(c.most)
		if s != c.want || e != api.OK || !stands(r, c.read, len(c.b)-c.read) {
			t.Errorf("%x, at most %d: %q, %v, at %d", c.b, c.most, s, e, r.At())
		}
	}
}

func TestP1_3TextErrors(t *testing.T) {
	cases := []struct {
		b    []byte
		most int
		want api.Errno
	}{
		{nil, 5, api.ErrShort},
		{[]byte{0x80}, 0, api.ErrShort},
		{[]byte{0x80, 0}, 0, api.ErrForm},
		{bytes.Repeat([]byte{0x80}, 10), 0, api.ErrRange},
		{[]byte{3, 'a', 'b', 'c'}, 2, api.ErrLong},
		{[]byte{1, 'a'}, 0, api.ErrLong},
		{[]byte{1, 'a'}, -1, api.ErrLong},
		{[]byte{1, 'a'}, math.MinInt, api.ErrLong},
		{[]byte{3}, 2, api.ErrLong},
		{[]byte{3, 'a', 'b'}, 3, api.ErrShort},
		{[]byte{3}, 3, api.ErrShort},
		{wire.Put(nil, math.MaxInt), math.MaxInt, api.ErrShort},
		{wire.Put(nil, math.MaxInt), math.MaxInt - 1, api.ErrLong},
	}
	for _, c := range cases {
		r := wire.Over(append([]byte{6}, c.b...))
		r.Byte()
		s, e := r.Text(c.most)
		if s != "" || e != c.want || !stands(r, 1, len(c.b)) {
			t.Errorf("%x, at most %d: %q, %v, at %d; want %v", c.b, c.most, s, e, r.At(), c.want)
		}
	}
}

func TestP1_3AnErrorReadsNothing(t *testing.T) {
	r := wire.Over([]byte{0x80, 0, 3, 'a'})
	r.Uint()
	r.Text(9)
	if n, e := r.Byte(); n != 0x80 || e != api.OK {
		t.Errorf("behind errors: %d, %v", n, e)
	}
	if n, e := r.Uint(); n != 0 || e != api.OK {
		t.Errorf("behind a byte: %d, %v", n, e)
	}
	if _, e := r.Text(9); e != api.ErrShort || !stands(r, 2, 2) {
		t.Error("a text that is short")
	}
	if n, e := r.Uint(); n != 3 || e != api.OK {
		t.Errorf("behind a text that is short: %d, %v", n, e)
	}
}

func TestP1_3End(t *testing.T) {
	r := wire.Over([]byte{1, 2})
	if !stands(r, 0, 2) || r.End() != api.ErrMore {
		t.Error("the end ahead of two bytes")
	}
	r.Byte()
	if r.End() != api.ErrMore || !stands(r, 1, 1) {
		t.Error("the end ahead of one byte")
	}
	r.Byte()
	if r.End() != api.OK || !stands(r, 2, 0) {
		t.Error("the end")
	}
	for _, b := range [][]byte{nil, {}} {
		if r := wire.Over(b); r.End() != api.OK || !stands(r, 0, 0) {
			t.Error("the end of nothing")
		}
	}
}

func TestP1_3OwnCopy(t *testing.T) {
	b := append(make([]byte, 0, 9), 5, 1, 'x')
	r := wire.Over(b)
	fill(b, 0xff)
	n, e := r.Uint()
	s, f := r.Text(1)
	if n != 5 || e != api.OK || s != "x" || f != api.OK {
		t.Errorf("%d, %v, %q, %v", n, e, s, f)
	}
	b = []byte{1, 2}
	q := wire.Over(b)
	wire.Over(b).Byte()
	q.Byte()
	if !bytes.Equal(b, []byte{1, 2}) || !stands(q, 1, 1) {
		t.Error("two readers over the same bytes")
	}
}

func TestP1_3NoReader(t *testing.T) {
	for name, r := range map[string]*wire.Reader{"nil": nil, "plain": {}, "new": new(wire.Reader)} {
		n, e := r.Uint()
		b, f := r.Byte()
		s, g := r.Text(3)
		if n != 0 || b != 0 || s != "" || e != api.ErrNil || f != api.ErrNil || g != api.ErrNil {
			t.Errorf("%s: %d, %v, %d, %v, %q, %v", name, n, e, b, f, s, g)
		}
		if r.End() != api.ErrNil || !stands(r, 0, 0) {
			t.Errorf("%s: the end", name)
		}
	}
}

func TestP1_4ThereAndBack(t *testing.T) {
	var b []byte
	texts := []string{"", "a", "\x80\x00", string(payload(127)), string(payload(128)), string(payload(1 << 15))}
	for i, f := range forms {
		b = wire.Put(b, f.n)
		b = wire.Text(b, texts[i%len(texts)])
	}
	whole := len(b) + 2
	r := wire.Over(append(b, 0x80, 0x80))
	for i, f := range forms {
		if n, e := r.Uint(); n != f.n || e != api.OK {
			t.Fatalf("the number %d: %d, %v", f.n, n, e)
		}
		want := texts[i%len(texts)]
		if s, e := r.Text(len(want)); s != want || e != api.OK {
			t.Fatalf("a text of %d bytes: %d, %v", len(want), len(s), e)
		}
	}
	if !stands(r, whole-2, 2) || r.End() != api.ErrMore {
		t.Error("what stands behind was read")
	}
}

// Each list of up to three bytes of these, behind up to seven more, is read as the number that Put writes so, or not at all.
func TestP1_5NumberHasOneForm(t *testing.T) {
	some := []byte{0, 1, 2, 0x7e, 0x7f, 0x80, 0x81, 0xfe, 0xff}
	tails := [][]byte{{}}
	for i := 0; i < len(tails) && len(tails[i]) < 3; i++ {
		for _, x := range some {
			tails = append(tails, append(bytes.Clone(tails[i]), x))
		}
	}
	read := 0
	for n := range 8 {
		for _, high := range []byte{0x80, 0xff} {
			for _, tail := range tails {
				b := append(bytes.Repeat([]byte{high}, n), tail...)
				r := wire.Over(b)
				x, e := r.Uint()
				if e != api.OK {
					continue
				}
				read++
				if !bytes.Equal(wire.Put(nil, x), b[:r.At()]) {
					t.Fatalf("%x is read as %d", b, x)
				}
				if y, k := binary.Uvarint(b); y != uint64(x) || k != r.At() {
					t.Fatalf("%x is read as %d, %d bytes", b, x, r.At())
				}
			}
		}
	}
	if read < 1000 {
		t.Errorf("%d numbers are read", read)
	}
}
