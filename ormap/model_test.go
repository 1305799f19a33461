package ormap_test

import (
	"maps"
	"math"
	"slices"
	"strconv"
	"testing"

	"trolley/api"
	"trolley/ormap"
)

// dice are numbers that look thrown, the same ones each time.
type dice struct{ x uint64 }

func (g *dice) below(n int) int {
	g.x = g.x*6364136223846793005 + 1442695040888963407
	return int(g.x >> 33 % uint64(n))
}

// set is a set of updates, by their numbers in a history.
type set map[int]bool

func union(a, b set) set {
	u := maps.Clone(a)
	maps.Copy(u, b)
	return u
}

func within(a, b set) bool {
	for i := range a {
		if !b[i] {
			return false
		}
	}
	return true
}

// view is a cart as the package makes it, and the updates of which it was made.
type view struct {
	cart api.Cart
	of   set
}

// history is updates of one cart, and for each of them which ones it had seen. What a cart must be is told by these alone.
type history struct {
	updates []api.Update
	seen    []set
	counts  map[api.Actor]int
	views   []view
}

// grow is a history of so many steps: at each one somebody who has seen a cart updates it, or two carts are joined.
func grow(t *testing.T, seed uint64, steps int) *history {
	t.Helper()
	g := &dice{x: seed}
	h := &history{counts: map[api.Actor]int{}, views: []view{{of: set{}}}}
	for range steps {
		seen := h.views[g.below(len(h.views))]
		if g.below(3) == 0 {
			other := h.views[g.below(len(h.views))]
			h.views = append(h.views, view{join(t, seen.cart, other.cart), union(seen.of, other.of)})
			continue
		}
		h.update(t, g, seen)
	}
	return h
}

func (h *history) update(t *testing.T, g *dice, seen view) {
	t.Helper()
	a := actor(g.below(3), 1+g.below(2))
	h.counts[a]++
	qty, price := g.below(4), rightPrices()[g.below(4)]
	if qty == 0 {
		price = 0
	}
	u := api.Update{Key: "cart", Dot: dot(a.Node, a.Life, h.counts[a]), Item: "i" + strconv.Itoa(g.below(3)), Qty: qty, Price: price, Seen: seen.cart}
	of := union(seen.of, set{len(h.updates): true})
	h.updates = append(h.updates, u)
	h.seen = append(h.seen, seen.of)
	h.views = append(h.views, view{apply(t, u), of})
}

// lives tells whether an update put something in that no update of a set had seen and replaced.
func (h *history) lives(i int, of set) bool {
	for j := range of {
		if h.seen[j][i] && h.updates[j].Item == h.updates[i].Item {
			return false
		}
	}
	return h.updates[i].Qty > 0
}

// entriesOf are what lives of a set.
func (h *history) entriesOf(of set) []api.Entry {
	var l []api.Entry
	for i := range of {
		if u := h.updates[i]; h.lives(i, of) {
			l = append(l, api.Entry{Item: u.Item, Dot: u.Dot, Qty: u.Qty, Price: u.Price})
		}
	}
	slices.SortFunc(l, byPlace)
	return l
}

// dotsOf are the dots of a set.
func (h *history) dotsOf(of set) []api.Dot {
	var l []api.Dot
	for i := range of {
		l = append(l, h.updates[i].Dot)
	}
	slices.SortFunc(l, byDot)
	return l
}

// spread are a context's dots, one by one.
func spread(c api.Context) []api.Dot {
	l := slices.Clone(c.Cloud)
	for _, m := range c.Marks {
		for count := 1; count <= m.Count; count++ {
			l = append(l, dot(m.Node, m.Life, count))
		}
	}
	slices.SortFunc(l, byDot)
	return l
}

// linesOf is what is read of entries in order.
func linesOf(entries []api.Entry) []api.Line {
	var lines []api.Line
	for _, e := range entries {
		n := len(lines) - 1
		if n < 0 || lines[n].Item != e.Item {
			lines = append(lines, api.Line{Item: e.Item, Qty: e.Qty, Price: e.Price})
			continue
		}
		more := e.Qty > lines[n].Qty
		if more || e.Qty == lines[n].Qty && isDearer(e.Price, lines[n].Price) {
			lines[n].Qty, lines[n].Price = e.Qty, e.Price
		}
	}
	return lines
}

func isDearer(a, b uint64) bool {
	x, y := math.Float64frombits(a), math.Float64frombits(b)
	return x > y || x == y && math.Signbit(y) && !math.Signbit(x)
}

func (h *history) check(t *testing.T, what string, v view) {
	t.Helper()
	entries := h.entriesOf(v.of)
	if !slices.Equal(v.cart.Entries, entries) || !slices.Equal(spread(v.cart.Ctx), h.dotsOf(v.of)) {
		t.Fatalf("%s of %v: %v, want %v", what, v.of, v.cart, entries)
	}
	if got := ormap.Read(v.cart); !slices.Equal(got, linesOf(entries)) {
		t.Fatalf("%s of %v: it is read as %v", what, v.of, got)
	}
}
