package ormap_test

import (
	"bytes"
	"slices"
	"testing"

	"trolley/api"
	"trolley/ormap"
)

// some are histories long enough for joins of joins.
func some(t *testing.T) []*history {
	var l []*history
	for seed := range uint64(60) {
		l = append(l, grow(t, 57+seed, 24))
	}
	return l
}

// What carts are is told by the updates of which they were made: those that no other one of the item had seen live.
func TestP5_7CartsOfAHistory(t *testing.T) {
	for _, h := range some(t) {
		for _, a := range h.views {
			h.check(t, "a cart", a)
			for _, b := range h.views {
				h.check(t, "a join", view{join(t, a.cart, b.cart), union(a.of, b.of)})
			}
		}
	}
}

func TestP5_7ALattice(t *testing.T) {
	for _, h := range some(t)[:8] {
		for _, a := range h.views {
			if c := join(t, a.cart, a.cart); !ormap.Same(c, a.cart) || !ormap.Leq(a.cart, a.cart) {
				t.Fatalf("%v with itself: %v", a.cart, c)
			}
			for _, b := range h.views {
				ab, ba := join(t, a.cart, b.cart), join(t, b.cart, a.cart)
				if !ormap.Same(ab, ba) {
					t.Fatalf("%v and %v: %v, %v", a.cart, b.cart, ab, ba)
				}
				if !ormap.Leq(a.cart, ab) || !ormap.Leq(b.cart, ab) {
					t.Fatalf("%v and %v do not lie below %v", a.cart, b.cart, ab)
				}
				if leq := ormap.Leq(a.cart, b.cart); leq != ormap.Same(ab, b.cart) || leq != within(a.of, b.of) {
					t.Fatalf("Leq(%v, %v) is %v", a.cart, b.cart, leq)
				}
				for _, c := range h.views[:12] {
					left, right := join(t, ab, c.cart), join(t, a.cart, join(t, b.cart, c.cart))
					if !ormap.Same(left, right) {
						t.Fatalf("%v, %v, %v: %v, %v", a.cart, b.cart, c.cart, left, right)
					}
				}
			}
		}
	}
}

func TestP5_8AddWins(t *testing.T) {
	put := 0
	for _, h := range some(t) {
		for i, u := range h.updates {
			if u.Qty == 0 {
				continue
			}
			made := apply(t, u)
			for _, v := range h.views {
				if v.of[i] {
					continue
				}
				put++
				c := join(t, made, v.cart)
				if !slices.ContainsFunc(c.Entries, func(e api.Entry) bool { return e.Dot == u.Dot && e.Item == u.Item && e.Qty == u.Qty }) {
					t.Fatalf("%v is lost in the join with %v: %v", u, v.cart, c)
				}
			}
		}
	}
	if put < 1000 {
		t.Errorf("%d joins", put)
	}
}

func TestP5_9WhatWasSeenIsTakenOut(t *testing.T) {
	for _, h := range some(t) {
		for _, u := range h.updates {
			made := apply(t, u)
			for _, c := range []api.Cart{join(t, u.Seen, made), join(t, made, u.Seen), made} {
				var dots []api.Dot
				for _, e := range c.Entries {
					if e.Item == u.Item {
						dots = append(dots, e.Dot)
					}
				}
				if u.Qty > 0 && !slices.Equal(dots, []api.Dot{u.Dot}) || u.Qty == 0 && len(dots) > 0 {
					t.Fatalf("behind %v there live %v", u, dots)
				}
				if !ormap.Same(c, made) {
					t.Fatalf("%v makes %v, with what was seen %v", u, made, c)
				}
			}
		}
	}
}

func TestP5_10ThereAndBack(t *testing.T) {
	carts := rightCarts()
	for _, h := range some(t) {
		for _, v := range h.views {
			carts = append(carts, v.cart)
		}
	}
	for _, c := range carts {
		b, e := ormap.Encode(c)
		ok(t, "Encode", e)
		back, e := ormap.Decode(b)
		if e != api.OK || !ormap.Same(back, c) {
			t.Fatalf("%v: %v, %v", c, back, e)
		}
	}
}

// Bytes that are turned somewhere are no code, or that of the cart as which they are read.
func TestP5_10OneForm(t *testing.T) {
	read := 0
	for _, c := range []api.Cart{{}, sample(), wide(4, 1), deep(4, "milk", 2), cart(marks(mark(0, 1, 1)))} {
		code := codeOf(c)
		for i := range code {
			for x := range 256 {
				b := slices.Clone(code)
				b[i] = byte(x)
				got, e := ormap.Decode(b)
				if e != api.OK {
					continue
				}
				read++
				if again, e := ormap.Encode(got); e != api.OK || !bytes.Equal(again, b) || ormap.Can(got) != api.OK {
					t.Fatalf("%x is read as %v, which is %x, %v", b, got, again, e)
				}
			}
		}
	}
	g := &dice{x: 510}
	for range 200000 {
		b := make([]byte, g.below(12))
		for i := range b {
			b[i] = byte(g.below(4))
		}
		if got, e := ormap.Decode(b); e == api.OK {
			read++
			if again, e := ormap.Encode(got); e != api.OK || !bytes.Equal(again, b) {
				t.Fatalf("%x is read as %v, which is %x, %v", b, got, again, e)
			}
		}
	}
	if read < 1000 {
		t.Errorf("%d carts are read", read)
	}
}

func TestP5_11Pruned(t *testing.T) {
	gone := 0
	for _, h := range some(t) {
		for _, v := range h.views {
			for a := range h.counts {
				c := ormap.Prune(v.cart, a)
				ok(t, "Can of what is pruned", ormap.Can(c))
				rest := slices.DeleteFunc(h.entriesOf(v.of), func(e api.Entry) bool { return actor(e.Dot.Node, e.Dot.Life) == a })
				dots := slices.DeleteFunc(h.dotsOf(v.of), func(d api.Dot) bool { return actor(d.Node, d.Life) == a })
				if !slices.Equal(c.Entries, rest) || !slices.Equal(spread(c.Ctx), dots) {
					t.Fatalf("%v without %v: %v", v.cart, a, c)
				}
				if lives := len(rest) < len(v.cart.Entries); lives != ormap.Lives(v.cart, a) {
					t.Fatalf("Lives(%v, %v) is %v", v.cart, a, !lives)
				}
				if !ormap.Lives(v.cart, a) {
					gone++
					if !slices.Equal(ormap.Read(c), ormap.Read(v.cart)) {
						t.Fatalf("%v without %v: %v", v.cart, a, c)
					}
				}
			}
		}
	}
	if gone < 1000 {
		t.Errorf("%d carts are pruned of who does not live", gone)
	}
}
