package ring_test

import (
	"slices"
	"testing"

	"trolley/api"
	"trolley/ring"
)

func TestP6_6AJoinOfVersions(t *testing.T) {
	g := &dice{x: 66}
	for range 20000 {
		a, b, c := g.ring(), g.ring(), g.ring()
		ab, ba := merge(t, a, b), merge(t, b, a)
		if !ring.Same(ab, ba) || !ring.Same(merge(t, a, a), a) {
			t.Fatalf("%v and %v: %v, %v", a, b, ab, ba)
		}
		left, right := merge(t, ab, c), merge(t, a, merge(t, b, c))
		if !ring.Same(left, right) {
			t.Fatalf("%v, %v, %v: %v, %v", a, b, c, left, right)
		}
		if !ring.Leq(a, a) || !ring.Leq(a, ab) || !ring.Leq(b, ab) {
			t.Fatalf("%v and %v do not lie below %v", a, b, ab)
		}
		if ring.Leq(a, b) && ring.Leq(b, a) && !ring.Same(a, b) {
			t.Fatalf("%v and %v lie below one another", a, b)
		}
		if ring.Leq(a, b) && ring.Leq(b, c) && !ring.Leq(a, c) {
			t.Fatalf("%v below %v below %v", a, b, c)
		}
		if ring.Leq(a, c) && ring.Leq(b, c) && !ring.Leq(ab, c) {
			t.Fatalf("%v and %v lie below %v, %v does not", a, b, c, ab)
		}
	}
}

// turns are all rings that one Join or Leave makes of one, and the nodes of these.
func turns(r api.Ring, turn func(api.Ring, int) (api.Ring, api.Errno)) map[int]api.Ring {
	made := map[int]api.Ring{}
	for node := range api.MaxNodes {
		if next, e := turn(r, node); e == api.OK {
			made[node] = next
		}
	}
	return made
}

func TestP6_7TurnedAndMerged(t *testing.T) {
	g := &dice{x: 67}
	for range 2000 {
		r := g.ring()
		joins, leaves := turns(r, ring.Join), turns(r, ring.Leave)
		if len(joins)+len(leaves) != api.MaxNodes {
			t.Fatalf("%v: %d and %d turns", r, len(joins), len(leaves))
		}
		for _, made := range []map[int]api.Ring{joins, leaves} {
			for node, next := range made {
				if !ring.Leq(r, next) || ring.Leq(next, r) || !ring.Same(merge(t, r, next), next) || ring.Can(next) != api.OK {
					t.Fatalf("%v, turned at %d: %v", r, node, next)
				}
			}
		}
	}
}

func TestP6_8AllOfThemOnce(t *testing.T) {
	for _, r := range rightRings() {
		for _, position := range positions() {
			nodes := ring.Walk(r, position)
			slices.Sort(nodes)
			if !slices.Equal(nodes, ring.In(r)) {
				t.Fatalf("%v from %x: %v", r, position, nodes)
			}
		}
	}
}

func TestP6_9LittleMoves(t *testing.T) {
	g := &dice{x: 69}
	came, went := 0, 0
	for range 300 {
		r := api.Ring{Parts: 1 << g.below(7), Copies: 1 + g.below(api.MaxCopies), Spots: 1 + g.below(api.MaxSpots)}
		for node := range api.MaxNodes {
			if g.below(2) == 0 {
				r.Members = append(r.Members, member(node, 1, 1, 1+g.below(2)))
			}
		}
		for node, next := range turns(r, ring.Join) {
			for part := range r.Parts {
				came += joined(t, ring.Owners(r, part), ring.Owners(next, part), node, r.Copies)
			}
		}
		for node, next := range turns(r, ring.Leave) {
			for part := range r.Parts {
				went += left(t, ring.Owners(r, part), ring.Owners(next, part), node)
			}
		}
	}
	if came < 1000 || went < 1000 {
		t.Errorf("%d partitions came, %d went", came, went)
	}
}

// joined counts a partition that came to a node.
func joined(t *testing.T, old, now []int, node, copies int) int {
	t.Helper()
	i := slices.Index(now, node)
	if i < 0 {
		if !slices.Equal(old, now) || len(now) < copies {
			t.Fatalf("%d joins: %v, then %v", node, old, now)
		}
		return 0
	}
	others := slices.Delete(slices.Clone(now), i, i+1)
	if !slices.Equal(others, old) && !(len(old) == copies && slices.Equal(others, old[:copies-1])) {
		t.Fatalf("%d joins: %v, then %v", node, old, now)
	}
	return 1
}

// left counts a partition that went from a node.
func left(t *testing.T, old, now []int, node int) int {
	t.Helper()
	i := slices.Index(old, node)
	if i < 0 {
		if !slices.Equal(old, now) {
			t.Fatalf("%d leaves: %v, then %v", node, old, now)
		}
		return 0
	}
	others := slices.Delete(slices.Clone(old), i, i+1)
	if len(now) > len(old) || !slices.Equal(now[:len(others)], others) || slices.Contains(now, node) {
		t.Fatalf("%d leaves: %v, then %v", node, old, now)
	}
	return 1
}

func TestP6_10NeverBack(t *testing.T) {
	g := &dice{x: 610}
	r, other := of(), of()
	for range 20000 {
		was := r
		switch node := g.below(api.MaxNodes); g.below(4) {
		case 0:
			r = turnedOr(r, ring.Join, node)
		case 1:
			r = turnedOr(r, ring.Leave, node)
		case 2:
			r = merge(t, other, r)
		case 3:
			other, r = r, other
			if g.below(9) == 0 {
				other = of()
			}
			continue
		}
		for _, m := range was.Members {
			i := slices.IndexFunc(r.Members, func(now api.Member) bool { return now.Node == m.Node })
			if i < 0 || r.Members[i].Epoch < m.Epoch || r.Members[i].Stamp < m.Stamp {
				t.Fatalf("%v, then %v", was, r)
			}
		}
	}
}

// turnedOr is a turned ring, or the same one where it can't be turned.
func turnedOr(r api.Ring, turn func(api.Ring, int) (api.Ring, api.Errno), node int) api.Ring {
	if next, e := turn(r, node); e == api.OK {
		return next
	}
	return r
}
