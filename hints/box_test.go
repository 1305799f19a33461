package hints_test

import (
	"math"
	"slices"
	"testing"

	"trolley/api"
	"trolley/hints"
)

func TestP16_1New(t *testing.T) {
	b := with(t)
	b.has()
	for _, owner := range append(wrongNodes(), 0, 1, 2, 3, 4, 5, 6, 7) {
		if n := b.Count(owner); n != 0 {
			t.Errorf("Count(%d) = %d", owner, n)
		}
		for _, key := range append(rightKeys(), wrongKeys()...) {
			if b.Has(hint(owner, key)) {
				t.Errorf("a new box has %v", hint(owner, key))
			}
		}
	}
	b.tells(0, nodes(0, 1, 2, 3, 4, 5, 6, 7))
	b.tells(math.MaxInt, nodes(0, 1, 2, 3, 4, 5, 6, 7))
}

// A time below the greatest one counts as that: at first as 0.
func TestP16_1Times(t *testing.T) {
	for _, first := range []int{math.MinInt, -1 << 40, -1000, -1, 0} {
		b := with(t, hint(1, "a"))
		b.tells(first, nodes(1), hint(1, "a")) // sent since 0
		for _, now := range []int{math.MinInt, -1, 0, 1, 500, 999} {
			b.tells(now, nodes(1))
		}
		b.tells(1000, nodes(1), hint(1, "a"))
	}
	b := with(t, hint(1, "a"))
	b.tells(5000, nodes(1), hint(1, "a"))
	b.puts(hint(1, "b"))
	b.tells(3000, nodes(1), hint(1, "b")) // since 5000, not 3000
	for _, now := range []int{0, 4000, 4001, 5000, 5999, -1, 2999} {
		b.tells(now, nodes(1))
	}
	b.puts(hint(1, "c"))
	b.tells(5998, nodes(1), hint(1, "c")) // since 5999, which was handed in ahead
	b.tells(6000, nodes(1), of(1, "a", "b")...)
	b.tells(6998, nodes(1))
	b.tells(6999, nodes(1), hint(1, "c"))
	b.tells(7000, nodes(1), of(1, "a", "b")...)
}

// Also a time counts that was handed in when nothing was there to tell, or nobody was up.
func TestP16_1TimesThatToldNothing(t *testing.T) {
	for _, up := range [][]int{nil, {}, {1}, {2}, wrongNodes()} {
		b := with(t)
		b.tells(7000, up)
		b.puts(hint(1, "a"))
		b.tells(0, nodes(1), hint(1, "a"))
		b.tells(7999, nodes(1))
		b.tells(8000, nodes(1), hint(1, "a"))
	}
	b := with(t, hint(1, "a"))
	b.tells(math.MaxInt-1000, nodes(1), hint(1, "a"))
	b.tells(math.MaxInt-1, nodes(1))
	b.tells(math.MaxInt, nodes(1), hint(1, "a"))
	b.tells(math.MaxInt, nodes(1))
	b.puts(hint(1, "b"))
	b.tells(0, nodes(1), hint(1, "b"))
	b.tells(math.MinInt, nodes(1))
}

func TestP16_2Put(t *testing.T) {
	b := with(t, hint(1, "b"))
	b.has(hint(1, "b"))
	b.puts(hint(0, "b"), hint(1, "a"), hint(7, "z")) // neither by owner nor by key: as they came
	all := list(hint(1, "b"), hint(0, "b"), hint(1, "a"), hint(7, "z"))
	b.has(all...)
	for _, h := range all {
		b.puts(h)
		b.has(all...) // once, and at its place
	}
	for _, other := range list(hint(2, "b"), hint(0, "a"), hint(1, "B"), hint(7, "zz"), hint(7, ""), hint(-1, "b"), hint(8, "z")) {
		if b.Has(other) {
			t.Errorf("it has %v", other)
		}
	}
	for owner := range api.MaxNodes {
		for _, key := range rightKeys() {
			one := with(t, hint(owner, key))
			one.has(hint(owner, key))
			one.tells(0, nodes(owner), hint(owner, key))
		}
	}
}

// A cart that is newer is sent, whatever is on the way, when the node has room.
func TestP16_2PutAgain(t *testing.T) {
	b := with(t, of(1, "a", "b", "c")...)
	b.tells(0, nodes(1), of(1, "a", "b", "c")...)
	b.puts(hint(1, "b"))
	b.tells(1, nodes(1), hint(1, "b"))
	b.tells(1, nodes(1))
	b.puts(hint(1, "b"), hint(1, "b"), hint(1, "a"))
	b.tells(2, nodes(1), of(1, "a", "b")...) // in the box's order
	b.has(of(1, "a", "b", "c")...)
	b.tells(1000, nodes(1), hint(1, "c"))
	b.tells(1001, nodes(1))
	b.tells(1002, nodes(1), of(1, "a", "b")...)
}

func TestP16_2Drop(t *testing.T) {
	all := list(hint(1, "a"), hint(2, "a"), hint(1, "b"), hint(2, "b"), hint(1, "c"))
	for i, h := range all {
		b := with(t, all...)
		b.drops(h)
		b.has(slices.Delete(slices.Clone(all), i, i+1)...)
		if b.Has(h) {
			t.Errorf("it has %v still", h)
		}
		if e := b.Drop(h); e != api.ErrHint {
			t.Errorf("Drop(%v) twice: %v", h, e)
		}
		b.has(slices.Delete(slices.Clone(all), i, i+1)...)
		b.puts(h) // behind all others now
		b.has(append(slices.Delete(slices.Clone(all), i, i+1), h)...)
	}
	b := with(t, all...)
	for i, h := range all {
		b.drops(h)
		b.has(all[i+1:]...)
	}
	for _, h := range all {
		if e := b.Drop(h); e != api.ErrHint {
			t.Errorf("Drop(%v) of an empty box: %v", h, e)
		}
	}
}

// One that was dropped and put again is not sent.
func TestP16_2DroppedAndPut(t *testing.T) {
	b := with(t, of(1, "a", "b")...)
	b.tells(0, nodes(1), of(1, "a", "b")...)
	b.drops(hint(1, "a"))
	b.puts(hint(1, "a"))
	b.tells(0, nodes(1), hint(1, "a"))
	b.has(of(1, "b", "a")...)
	b.tells(1000, nodes(1), of(1, "b", "a")...)
}

func TestP16_2Full(t *testing.T) {
	for _, owners := range [][]int{{0}, {7}, {0, 1, 2, 3, 4, 5, 6, 7}} {
		all := many(api.MaxHints, owners...)
		b := with(t, all[:api.MaxHints-1]...)
		b.has(all[:api.MaxHints-1]...)
		b.puts(all[api.MaxHints-1])
		b.has(all...)
		for _, h := range list(hint(0, "more"), hint(7, "more"), hint(3, "more")) {
			b.refuses(h, api.ErrFull, api.ErrHint)
		}
		b.has(all...)
		b.tells(0, owners, firsts(all, owners)...)
		b.refuses(hint(3, "more"), api.ErrFull, api.ErrHint)
		b.puts(all...) // those that are there need no room
		b.has(all...)
		b.tells(0, owners, firsts(all, owners)...)
		b.drops(all[5])
		b.puts(hint(3, "more"))
		b.refuses(all[5], api.ErrFull, api.ErrHint)
		b.has(append(slices.Delete(slices.Clone(all), 5, 6), hint(3, "more"))...)
	}
}

// firsts is of each node its first MaxReplay hints, node by node.
func firsts(all []api.Hint, owners []int) []api.Hint {
	var l []api.Hint
	for _, owner := range owners {
		n := 0
		for _, h := range all {
			if h.Owner == owner && n < api.MaxReplay {
				n++
				l = append(l, h)
			}
		}
	}
	return l
}

func TestP16_2WrongHints(t *testing.T) {
	all := many(api.MaxHints, 0, 1, 2)
	for _, full := range [][]api.Hint{nil, list(hint(0, "a"), hint(7, "a")), all} {
		b := with(t, full...)
		for _, w := range wrongHints() {
			b.refuses(w.hint, w.want, w.want) // ahead of ErrFull, and of ErrHint
			if b.Has(w.hint) {
				t.Errorf("it has %v", w.hint)
			}
		}
		b.has(full...)
		for _, owner := range wrongNodes() {
			if n := b.Count(owner); n != 0 {
				t.Errorf("Count(%d) = %d", owner, n)
			}
		}
	}
	// What is refused turns nothing that was sent either.
	b := with(t, all...)
	b.tells(0, nodes(0), firsts(all, nodes(0))...)
	for _, w := range wrongHints() {
		b.refuses(w.hint, w.want, w.want)
	}
	b.refuses(hint(0, "more"), api.ErrFull, api.ErrHint)
	b.tells(999, nodes(0))
}

func TestP16_4NoBox(t *testing.T) {
	for name, b := range map[string]*hints.Box{"nil": nil, "plain": {}, "new": new(hints.Box)} {
		for range 2 {
			one := box{t, b}
			for _, w := range wrongHints() {
				one.refuses(w.hint, api.ErrNil, api.ErrNil)
			}
			for _, owner := range append(wrongNodes(), 0, 1, 7) {
				one.refuses(hint(owner, "a"), api.ErrNil, api.ErrNil)
				if b.Has(hint(owner, "a")) || b.Count(owner) != 0 {
					t.Errorf("%s: it has something of %d", name, owner)
				}
			}
			if l := b.Hints(); l != nil {
				t.Errorf("%s: Hints() = %v", name, l)
			}
			for _, now := range []int{math.MinInt, -1, 0, 1000, math.MaxInt} {
				if l := b.Due(now, nodes(0, 1, 7)); l != nil {
					t.Errorf("%s: Due(%d) = %v", name, now, l)
				}
			}
		}
	}
	var b hints.Box
	if b.Has(api.Hint{}) || (*hints.Box)(nil).Has(api.Hint{}) {
		t.Error("it has the zero hint")
	}
}

// Nothing that is handed in is changed or kept, no two answers share their memory, and no two boxes anything.
func TestMemory(t *testing.T) {
	spoil := func(l []api.Hint) {
		for i := range l[:cap(l)] {
			l[:cap(l)][i] = hint(-7, "spoilt")
		}
	}
	b, other := with(t, of(1, "a", "b", "c")...), with(t)
	spoil(b.Hints())
	b.has(of(1, "a", "b", "c")...)
	up := append(make([]int, 0, 9), 1, 9, 1, 2)
	was := slices.Clone(up[:9])
	first := b.Due(0, up)
	if !slices.Equal(up[:9], was) {
		t.Errorf("up is %v", up[:9])
	}
	second := b.Due(1000, up)
	one, two := b.Hints(), b.Hints()
	spoil(first)
	spoil(one)
	if !slices.Equal(second, of(1, "a", "b", "c")) || !slices.Equal(two, of(1, "a", "b", "c")) {
		t.Errorf("two answers share their memory: %v, %v", second, two)
	}
	spoil(second)
	b.has(of(1, "a", "b", "c")...)
	for i := range up[:9] {
		up[:9][i] = 2
	}
	b.tells(2000, nodes(1), of(1, "a", "b", "c")...)
	other.has()
	other.puts(hint(1, "a"))
	other.tells(0, nodes(1), hint(1, "a"))
}
