package hints_test

import (
	"math"
	"slices"
	"testing"

	"trolley/api"
)

func TestExamplesOfTheDocument(t *testing.T) {
	b := with(t, hint(1, "a"), hint(2, "b"), hint(1, "c"))
	b.tells(0, nodes(1), of(1, "a", "c")...)
	b.tells(999, nodes(1))
	b.tells(1000, nodes(1, 2), hint(1, "a"), hint(1, "c"), hint(2, "b"))

	b = with(t, hint(1, "a"), hint(2, "b"), hint(1, "c"))
	b.tells(0, nodes(1), of(1, "a", "c")...)
	b.puts(hint(1, "a"))
	b.tells(1, nodes(1), hint(1, "a"))
	b.drops(hint(1, "a"))
	if e := b.Drop(hint(1, "a")); e != api.ErrHint {
		t.Errorf("Drop twice: %v", e)
	}
}

// Just MaxAge old is no more on the way, one less is.
func TestP16_3Age(t *testing.T) {
	for _, start := range []int{0, 1, 999, 1000, 1 << 40, math.MaxInt - 3*api.MaxAge} {
		b := with(t, hint(3, "a"))
		b.tells(start, nodes(3), hint(3, "a"))
		for _, later := range []int{0, 1, 500, api.MaxAge - 1} {
			b.tells(start+later, nodes(3))
		}
		b.tells(start+api.MaxAge, nodes(3), hint(3, "a"))
		b.tells(start+2*api.MaxAge-1, nodes(3)) // since then
		b.tells(start+2*api.MaxAge+7, nodes(3), hint(3, "a"))
		b.tells(start+3*api.MaxAge, nodes(3))
	}
}

func TestP16_3FourAndFive(t *testing.T) {
	keys := []string{"e", "d", "c", "b", "a"}
	b := with(t, of(1, keys[:4]...)...)
	b.tells(0, nodes(1), of(1, keys[:4]...)...)
	b = with(t, of(1, keys...)...)
	b.tells(0, nodes(1), of(1, keys[:4]...)...)
	b.tells(0, nodes(1))
	b.tells(999, nodes(1))
	b.tells(1000, nodes(1), of(1, keys[:4]...)...) // in order: the last one waits again
	b.drops(hint(1, "c"))
	b.tells(1000, nodes(1), hint(1, "a")) // one is on the way no more
	b.drops(hint(1, "a"))
	b.tells(1001, nodes(1))
	b.puts(of(1, "f", "g", "h")...)
	b.tells(1001, nodes(1), hint(1, "f"))
	b.tells(2000, nodes(1), of(1, "e", "d", "b")...)
	b.tells(2001, nodes(1), hint(1, "f"))
	b.tells(2002, nodes(1))
}

// Those on the way leave room for so many less, whatever stands ahead of them.
func TestP16_3OnTheWay(t *testing.T) {
	for sent := range 5 {
		b := with(t, many(sent, 1)...)
		b.tells(0, nodes(1), many(sent, 1)...)
		more := of(1, "p", "q", "r", "s", "t")
		b.puts(more...)
		b.tells(10, nodes(1), more[:4-sent]...)
		b.tells(999, nodes(1))
		b.tells(1000, nodes(1), many(sent, 1)...)
	}
	// What is old, and stands behind one that was not sent, waits for that one too.
	b := with(t, of(1, "a", "b", "c", "d", "e", "f")...)
	b.tells(0, nodes(1), of(1, "a", "b", "c", "d")...)
	b.drops(hint(1, "a"))
	b.tells(500, nodes(1), hint(1, "e"))
	b.puts(hint(1, "b"))
	b.tells(600, nodes(1), hint(1, "b"))
	b.tells(1000, nodes(1), of(1, "c", "d")...)
	b.tells(1499, nodes(1))
	b.tells(1500, nodes(1), hint(1, "e"))
	b.drops(hint(1, "c"))
	b.tells(1500, nodes(1), hint(1, "f"))
	b.tells(2600, nodes(1), of(1, "b", "d", "e", "f")...)
}

func TestP16_3NodeByNode(t *testing.T) {
	all := many(20, 3, 0, 7)
	for _, c := range []struct{ up, order []int }{
		{nodes(0, 3, 7), nodes(0, 3, 7)},
		{nodes(7, 0, 3), nodes(7, 0, 3)},                 // as they stand in up
		{nodes(7, 7, 3, 7, 3, 3, 7), nodes(7, 3)},        // where each first stands
		{append(wrongNodes(), 3, -1, 8, 0), nodes(3, 0)}, // those that are none are left out
		{nodes(1, 2, 4, 5, 6), nil},                      // nodes without hints
		{nodes(1, 3, 2), nodes(3)},                       // some of which have some
		{nil, nil}, {[]int{}, nil}, {wrongNodes(), nil},  // nobody
		{slices.Repeat(nodes(0, 9), 1<<18), nodes(0)},                    // very often
		{nodes(0, 1, 2, 3, 4, 5, 6, 7, 0, 1, 2, 3), nodes(0, 3, 7)},      // all
		{nodes(7, 6, 5, 4, 3, 2, 1, 0, -1, math.MinInt), nodes(7, 3, 0)}, // all, the other way round
	} {
		b := with(t, all...)
		b.tells(40, c.up, firsts(all, c.order)...)
		b.has(all...)
		b.tells(1039, c.up)
		b.tells(1040, c.up, firsts(all, c.order)...)
	}
}

// A node that stands in up twice gets no more than one that stands there once, also where it has room left.
func TestP16_3TwiceInUp(t *testing.T) {
	b := with(t, of(1, "a", "b", "c", "d", "e", "f", "g", "h", "i")...)
	b.tells(0, nodes(1, 1), of(1, "a", "b", "c", "d")...)
	b.drops(of(1, "a", "b", "c", "d")...)
	b.tells(0, nodes(1, 2, 1, 1), of(1, "e", "f", "g", "h")...)
	b = with(t, hint(1, "a"), hint(2, "a"))
	b.tells(0, nodes(2, 1, 2, 1), hint(2, "a"), hint(1, "a"))
	b.tells(1000, nodes(1, 2, 2, 1), hint(1, "a"), hint(2, "a"))
}

// The nodes' rooms are apart, and so are their times.
func TestP16_3RoomOfEachNode(t *testing.T) {
	b := with(t, append(of(1, "a", "b", "c", "d", "e"), of(2, "a", "b", "c", "d", "e")...)...)
	b.tells(0, nodes(1), of(1, "a", "b", "c", "d")...)
	b.tells(500, nodes(1, 2), of(2, "a", "b", "c", "d")...)
	b.tells(1000, nodes(2, 1), of(1, "a", "b", "c", "d")...)
	b.tells(1500, nodes(2, 1), of(2, "a", "b", "c", "d")...)
	b.drops(hint(1, "a"))
	b.tells(1501, nodes(2, 1), hint(1, "e"))
}
