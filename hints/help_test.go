package hints_test

import (
	"math"
	"slices"
	"strconv"
	"strings"
	"testing"

	"trolley/api"
	"trolley/hints"
)

func hint(owner int, key string) api.Hint { return api.Hint{Owner: owner, Key: key} }

func list(l ...api.Hint) []api.Hint { return l }

func nodes(l ...int) []int { return l }

// of is hints of a node, one of each key.
func of(owner int, keys ...string) []api.Hint {
	var l []api.Hint
	for _, key := range keys {
		l = append(l, hint(owner, key))
	}
	return l
}

// many is so many hints, by turns of some nodes.
func many(n int, owners ...int) []api.Hint {
	var l []api.Hint
	for i := range n {
		l = append(l, hint(owners[i%len(owners)], "k"+strconv.Itoa(i)))
	}
	return l
}

func wrongNodes() []int {
	return []int{math.MinInt, -2, -1, api.MaxNodes, api.MaxNodes + 1, 1 << 32, math.MaxInt}
}

func rightKeys() []string {
	return []string{"a", "z", "A", "Z", "0", "9", ".", "-", "_", "cart-1", "..", strings.Repeat("n", api.MaxName)}
}

func wrongKeys() []string {
	return []string{"", " ", "a b", "a/b", "a:", "@", "[", "`", "{", "a\x00", "\n", "\x80", "\xff", "é", "\u212a", strings.Repeat("n", api.MaxName+1), strings.Repeat("n", 1<<16)}
}

// wrong is a hint that can't be, and the error that Put and Drop answer of it.
type wrong struct {
	hint api.Hint
	want api.Errno
}

func wrongHints() []wrong {
	var l []wrong
	for _, owner := range wrongNodes() {
		l = append(l, wrong{hint(owner, "a"), api.ErrArg}, wrong{hint(owner, ""), api.ErrArg}, wrong{hint(owner, "a b"), api.ErrArg})
	}
	for _, key := range wrongKeys() {
		l = append(l, wrong{hint(0, key), api.ErrName}, wrong{hint(api.MaxNodes-1, key), api.ErrName})
	}
	return l
}

// box is one whose answers are held against what they are to be.
type box struct {
	t *testing.T
	*hints.Box
}

// with is a box that some hints were put into.
func with(t *testing.T, l ...api.Hint) box {
	t.Helper()
	b := box{t, hints.New()}
	b.puts(l...)
	return b
}

func (b box) puts(l ...api.Hint) {
	b.t.Helper()
	for _, h := range l {
		if e := b.Put(h); e != api.OK {
			b.t.Errorf("Put(%v): %v", h, e)
		}
	}
}

func (b box) drops(l ...api.Hint) {
	b.t.Helper()
	for _, h := range l {
		if e := b.Drop(h); e != api.OK {
			b.t.Errorf("Drop(%v): %v", h, e)
		}
	}
}

func (b box) refuses(h api.Hint, put, drop api.Errno) {
	b.t.Helper()
	if e := b.Put(h); e != put {
		b.t.Errorf("Put(%v): %v, want %v", h, e, put)
	}
	if e := b.Drop(h); e != drop {
		b.t.Errorf("Drop(%v): %v, want %v", h, e, drop)
	}
}

// has holds all that a box tells of its hints against a list.
func (b box) has(l ...api.Hint) {
	b.t.Helper()
	if got := b.Hints(); !slices.Equal(got, l) {
		b.t.Errorf("Hints() = %v, want %v", got, l)
	}
	counts := [api.MaxNodes]int{}
	for _, h := range l {
		counts[h.Owner]++
		if !b.Has(h) {
			b.t.Errorf("Has(%v) is false", h)
		}
	}
	for owner, want := range counts {
		if got := b.Count(owner); got != want {
			b.t.Errorf("Count(%d) = %d, want %d", owner, got, want)
		}
	}
}

// tells is a call of Due.
func (b box) tells(now int, up []int, l ...api.Hint) {
	b.t.Helper()
	if got := b.Due(now, up); !slices.Equal(got, l) {
		b.t.Errorf("Due(%d, %v) = %v, want %v", now, up, got, l)
	}
}

// dice are numbers that look thrown, the same ones each time.
type dice struct{ x uint64 }

func (g *dice) below(n int) int {
	g.x = g.x*6364136223846793005 + 1442695040888963407
	return int(g.x >> 33 % uint64(n))
}

func (g *dice) from(l ...int) int { return l[g.below(len(l))] }

// up is some nodes, in any order, often, and some that are none.
func (g *dice) up(most int) []int {
	var l []int
	for range g.below(most + 1) {
		l = append(l, g.from(append(wrongNodes(), 0, 0, 0, 1, 1, 1, 2, 2, 2, 3, 3, 3, 4, 5, 6, 7)...))
	}
	return l
}
