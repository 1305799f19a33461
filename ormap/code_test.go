package ormap_test

import (
	"bytes"
	"math"
	"slices"
	"testing"

	"trolley/api"
	"trolley/ormap"
)

func TestP5_6Encode(t *testing.T) {
	for _, c := range rightCarts() {
		given := roomy(c)
		b, e := ormap.Encode(given)
		if e != api.OK || !bytes.Equal(b, codeOf(c)) || !untouched(given, c) {
			t.Errorf("%v: %x, %v", c, b, e)
		}
	}
	c := cart(api.Context{Marks: []api.Mark{mark(1, 200, 3)}, Cloud: []api.Dot{dot(1, 200, 5)}}, api.Entry{Item: "ab", Dot: dot(1, 200, 2), Qty: 300, Price: 0x3ff8000000000102})
	want := []byte{1, 2, 'a', 'b', 1, 0xc8, 1, 2, 0xac, 2, 0x02, 0x01, 0, 0, 0, 0, 0xf8, 0x3f, 1, 1, 0xc8, 1, 3, 1, 1, 0xc8, 1, 5}
	if b, e := ormap.Encode(c); e != api.OK || !bytes.Equal(b, want) {
		t.Errorf("the code: %x, %v", b, e)
	}
	if b, e := ormap.Encode(api.Cart{}); e != api.OK || !bytes.Equal(b, []byte{0, 0, 0}) {
		t.Errorf("the code of nothing: %x, %v", b, e)
	}
	for _, w := range wrongCarts() {
		if b, e := ormap.Encode(w.cart); e != w.want || len(b) != 0 {
			t.Errorf("%s: %x, %v; want %v", w.why, b, e, w.want)
		}
	}
}

func TestP5_6Decode(t *testing.T) {
	for _, c := range rightCarts() {
		b := append(make([]byte, 0, 1<<16), codeOf(c)...)
		got, e := ormap.Decode(b)
		if e != api.OK || !same(got, c) || !bytes.Equal(b, codeOf(c)) {
			t.Errorf("%v: %v, %v", c, got, e)
		}
		for i := range b {
			b[i] = 'w'
		}
		if !same(got, c) {
			t.Errorf("%v: it hangs on the bytes", c)
		}
		spoil(got)
		if again, e := ormap.Decode(codeOf(c)); e != api.OK || !same(again, c) {
			t.Errorf("%v, again: %v, %v", c, again, e)
		}
	}
}

func refused(t *testing.T, why string, code []byte, want api.Errno) {
	t.Helper()
	if c, e := ormap.Decode(code); e != want || !isEmpty(c) {
		t.Errorf("%s: %v, %v; want %v", why, c, e, want)
	}
}

func TestP5_6DecodeErrors(t *testing.T) {
	number := func(numbers ...int) []byte { return uvarints(nil, numbers...) }
	form, huge := []byte{0x80, 0}, bytes.Repeat([]byte{0x80}, 9)
	with := func(parts ...[]byte) []byte { return slices.Concat(parts...) }
	price := make([]byte, 8)
	right := with(number(1, 1), []byte{'a'}, number(0, 1, 1, 1), price)
	noName := with(number(1, 1), []byte{' '}, number(0, 1, 1, 1), price)
	long := with(number(api.MaxName+1), bytes.Repeat([]byte{'n'}, api.MaxName+1), number(0, 1, 1, 1), price)
	cases := []struct {
		why  string
		code []byte
		want api.Errno
	}{
		{"nothing", nil, api.ErrShort},
		{"half a number", []byte{0x80}, api.ErrShort},
		{"another form of the number of entries", with(form, number(0, 0)), api.ErrForm},
		{"a number of entries that is too long", with(huge, number(1)), api.ErrRange},
		{"one entry too many, and nothing behind", number(api.MaxLive + 1), api.ErrLong},
		{"one entry too many, and another form behind", with(number(api.MaxLive+1), form), api.ErrLong},
		{"very many entries", number(math.MaxInt), api.ErrLong},
		{"the most entries, and nothing behind", number(api.MaxLive), api.ErrShort},
		{"an item one byte too long", with(number(1), long, number(1, 0, 1, 1, 0)), api.ErrLong},
		{"an item one byte too long, and nothing behind", number(1, api.MaxName+1), api.ErrLong},
		{"an item that is very long", number(1, math.MaxInt), api.ErrLong},
		{"an item too long ahead of another form", with(number(1, api.MaxName+1), form), api.ErrLong},
		{"the longest item, and nothing behind", number(1, api.MaxName), api.ErrShort},
		{"another form of an item's length", with(number(1), []byte{0x81, 0}, []byte{'a'}), api.ErrForm},
		{"another form of a node", with(number(1, 1), []byte{'a'}, form), api.ErrForm},
		{"another form of a life", with(number(1, 1), []byte{'a'}, number(0), form), api.ErrForm},
		{"another form of a count", with(number(1, 1), []byte{'a'}, number(0, 1), form), api.ErrForm},
		{"another form of pieces", with(number(1, 1), []byte{'a'}, number(0, 1, 1), form), api.ErrForm},
		{"pieces that are too long", with(number(1, 1), []byte{'a'}, number(0, 1, 1), huge), api.ErrRange},
		{"half a price", with(number(1, 1), []byte{'a'}, number(0, 1, 1, 1), price[1:]), api.ErrShort},
		{"no context", right, api.ErrShort},
		{"another form in the context", with(right, form), api.ErrForm},
		{"too many marks", with(right, number(api.MaxMarks+1)), api.ErrLong},
		{"too many dots", with(right, number(1, 0, 1, 1, api.MaxCloud+1)), api.ErrLong},
		{"a context that can't be", with(right, number(1, 9, 1, 1, 0)), api.ErrDots},
		{"something behind", with(right, number(1, 0, 1, 1, 0), []byte{0}), api.ErrMore},
		{"half a number behind", with(right, number(1, 0, 1, 1, 0), []byte{0x80}), api.ErrMore},
		{"a cart behind", with(codeOf(sample()), codeOf(sample())), api.ErrMore},
		{"a context that can't be ahead of something behind", with(right, number(1, 9, 1, 1, 0), []byte{0}), api.ErrDots},
		{"a name, and a context that can't be", with(noName, number(1, 9, 1, 1, 0)), api.ErrDots},
		{"a name, and something behind", with(noName, number(1, 0, 1, 1, 0), []byte{0}), api.ErrMore},
		{"a name, and nothing behind", noName, api.ErrShort},
		{"a name, and too many marks", with(noName, number(api.MaxMarks+1)), api.ErrLong},
		{"a name", with(noName, number(1, 0, 1, 1, 0)), api.ErrName},
		{"no item at all", with(number(1, 0, 0, 1, 1, 1), price, number(1, 0, 1, 1, 0)), api.ErrName},
	}
	for _, c := range cases {
		refused(t, c.why, c.code, c.want)
	}
	if c, e := ormap.Decode(with(right, number(1, 0, 1, 1, 0))); e != api.OK || len(c.Entries) != 1 {
		t.Errorf("the right one: %v, %v", c, e)
	}
}

func TestP5_6DecodeOfWhatCantBe(t *testing.T) {
	for _, w := range wrongCarts() {
		want := w.want
		for _, e := range w.cart.Entries {
			if min(e.Dot.Node, e.Dot.Life, e.Dot.Count, e.Qty) < 0 {
				want = -1 // no number can tell it
			} else if len(e.Item) > api.MaxName {
				want = api.ErrLong
			}
		}
		if len(w.cart.Entries) > api.MaxLive || len(w.cart.Ctx.Marks) > api.MaxMarks {
			want = api.ErrLong
		}
		if want >= 0 {
			refused(t, w.why, codeOf(w.cart), want)
		}
	}
}

func TestP5_6DecodeOfABeginning(t *testing.T) {
	for _, c := range []api.Cart{{}, sample(), wide(3, 1), fullest()} {
		code := codeOf(c)
		for n := range code {
			refused(t, "a beginning", code[:n], api.ErrShort)
		}
	}
}
