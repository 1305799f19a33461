package plan_test

import (
	"math"
	"slices"
	"testing"

	"trolley/api"
	"trolley/plan"
	"trolley/ring"
)

func member(node, status int) api.Member {
	return api.Member{Node: node, Epoch: 1, Stamp: 1, Status: status}
}

// of is a ring in a shape in which nodes are in.
func of(parts, copies, spots int, nodes ...int) api.Ring {
	r := api.Ring{Parts: parts, Copies: copies, Spots: spots}
	for _, node := range nodes {
		r.Members = append(r.Members, member(node, api.RingIn))
	}
	return r
}

// shapes are rings without members, at their edges, and some between.
func shapes(yield func(api.Ring) bool) {
	for _, parts := range []int{1, 2, 8, api.MaxParts} {
		for _, copies := range []int{1, 2, 3, api.MaxCopies} {
			for _, spots := range []int{1, 4, api.MaxSpots} {
				if !yield(of(parts, copies, spots)) {
					return
				}
			}
		}
	}
}

// wrongRings can't be, each for a reason of its own.
func wrongRings() []api.Ring {
	l := []api.Ring{
		{},
		of(8, 3, 4, 1, 0), of(8, 3, 4, 2, 2), of(8, 3, 4, 0, 8), of(8, 3, 4, -1, 0),
		{Parts: 8, Copies: 3, Spots: 4, Members: []api.Member{{Node: 0, Epoch: 0, Stamp: 1, Status: api.RingIn}}},
		{Parts: 8, Copies: 3, Spots: 4, Members: []api.Member{{Node: 0, Epoch: api.MaxEpoch + 1, Stamp: 1, Status: api.RingIn}}},
		{Parts: 8, Copies: 3, Spots: 4, Members: []api.Member{{Node: 0, Epoch: 1, Stamp: 0, Status: api.RingIn}}},
		{Parts: 8, Copies: 3, Spots: 4, Members: []api.Member{{Node: 0, Epoch: 1, Stamp: api.MaxStamp + 1, Status: api.RingIn}}},
		{Parts: 8, Copies: 3, Spots: 4, Members: []api.Member{member(0, 0)}},
		{Parts: 8, Copies: 3, Spots: 4, Members: []api.Member{member(0, 3)}},
		of(8, 3, 4, slices.Repeat([]int{1}, 1<<16)...),
	}
	for _, n := range []int{math.MinInt, -1, 0, 3, 12, api.MaxParts + 1, 2 * api.MaxParts, 1 << 62, math.MaxInt} {
		l = append(l, of(n, 3, 4, 0, 1))
	}
	for _, n := range []int{math.MinInt, -1, 0, api.MaxCopies + 1, math.MaxInt} {
		l = append(l, of(8, n, 4, 0, 1))
	}
	for _, n := range []int{math.MinInt, -1, 0, api.MaxSpots + 1, math.MaxInt} {
		l = append(l, of(8, 3, n, 0, 1))
	}
	return l
}

func wrongNodes() []int { return []int{math.MinInt, -1, api.MaxNodes, 1 << 32, math.MaxInt} }

func ok(t *testing.T, what string, e api.Errno) {
	t.Helper()
	if e != api.OK {
		t.Fatalf("%s: %v", what, e)
	}
}

func moves(t *testing.T, from, to api.Ring) []api.Move {
	t.Helper()
	l, e := plan.Moves(from, to)
	ok(t, "Moves", e)
	return l
}

// asked is what a call tells that must be.
func asked(t *testing.T, call func(from, to api.Ring, n int) ([]int, api.Errno), from, to api.Ring, n int) []int {
	t.Helper()
	l, e := call(from, to, n)
	ok(t, "a call", e)
	return l
}

func gains(t *testing.T, from, to api.Ring, node int) []int {
	t.Helper()
	return asked(t, plan.Gains, from, to, node)
}

func losses(t *testing.T, from, to api.Ring, node int) []int {
	t.Helper()
	return asked(t, plan.Losses, from, to, node)
}

func sources(t *testing.T, from, to api.Ring, part int) []int {
	t.Helper()
	return asked(t, plan.Sources, from, to, part)
}

// change is who owned a partition, and who does then.
type change struct {
	part     int
	old, now []int
}

func changes(from, to api.Ring) []change {
	var l []change
	for part := range from.Parts {
		l = append(l, change{part, ring.Owners(from, part), ring.Owners(to, part)})
	}
	return l
}

// gainers, losers and stayers, each in the order that the document says.
func (c change) gainers() []int { return pick(c.now, c.old, false) }
func (c change) losers() []int  { return pick(c.old, c.now, false) }
func (c change) stayers() []int { return pick(c.old, c.now, true) }

// pick is the nodes that others have, or have not.
func pick(nodes, others []int, has bool) []int {
	var l []int
	for _, node := range nodes {
		found := false
		for _, other := range others {
			found = found || node == other
		}
		if found == has {
			l = append(l, node)
		}
	}
	return l
}

// with is a ring in the shape of another one, in which nodes are in.
func with(r api.Ring, nodes ...int) api.Ring { return of(r.Parts, r.Copies, r.Spots, nodes...) }

// dice are numbers that look thrown, the same ones each time.
type dice struct{ x uint64 }

func (g *dice) below(n int) int {
	g.x = g.x*6364136223846793005 + 1442695040888963407
	return int(g.x >> 33 % uint64(n))
}

func (g *dice) shape() api.Ring {
	return api.Ring{Parts: 1 << g.below(7), Copies: 1 + g.below(api.MaxCopies), Spots: 1 + g.below(api.MaxSpots)}
}

// like is a ring in the shape of another one, with members of its own: in, out, or not there.
func (g *dice) like(r api.Ring) api.Ring {
	r.Members = nil
	few := 1 + g.below(4)
	for node := range api.MaxNodes {
		if g.below(4) < few {
			r.Members = append(r.Members, api.Member{Node: node, Epoch: 1 + g.below(3), Stamp: 1 + g.below(9), Status: 1 + g.below(5)/4})
		}
	}
	return r
}

// pairs are rings that fit.
func pairs(yield func(from, to api.Ring) bool) {
	g := &dice{x: 10}
	for range 600 {
		from := g.like(g.shape())
		if !yield(from, g.like(from)) {
			return
		}
	}
}
