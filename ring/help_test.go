package ring_test

import (
	"cmp"
	"math"
	"slices"
	"strconv"
	"testing"

	"trolley/api"
	"trolley/ident"
	"trolley/ring"
)

func member(node, epoch, stamp, status int) api.Member {
	return api.Member{Node: node, Epoch: epoch, Stamp: stamp, Status: status}
}

// of is a ring in a shape of every day.
func of(members ...api.Member) api.Ring {
	return api.Ring{Parts: 8, Copies: 3, Spots: 4, Members: members}
}

// shaped is a ring of all nodes, which are in.
func shaped(parts, copies, spots int) api.Ring {
	r := api.Ring{Parts: parts, Copies: copies, Spots: spots}
	for node := range api.MaxNodes {
		r.Members = append(r.Members, member(node, 1, 1, api.RingIn))
	}
	return r
}

// sample has members that are in, and some that left.
func sample() api.Ring {
	return of(member(0, 2, 3, api.RingIn), member(2, 1, 2, api.RingOut), member(3, 1, 1, api.RingIn), member(7, 4, 9, api.RingIn))
}

// rightRings can be.
func rightRings() []api.Ring {
	l := []api.Ring{
		of(), {Parts: 8, Copies: 3, Spots: 4, Members: []api.Member{}}, sample(),
		of(member(0, 1, 1, api.RingIn)), of(member(7, api.MaxEpoch, api.MaxStamp, api.RingOut)),
		of(member(5, 1, api.MaxStamp, api.RingIn)), of(member(5, api.MaxEpoch, 1, api.RingIn)), of(member(5, 9, 1, api.RingOut)),
	}
	for _, parts := range []int{1, 2, 4, 8, 16, 32, api.MaxParts} {
		for _, copies := range []int{1, 2, api.MaxCopies} {
			for _, spots := range []int{1, 3, api.MaxSpots} {
				l = append(l, shaped(parts, copies, spots))
			}
		}
	}
	return l
}

// wrongShapes are Parts, Copies and Spots of which there is no ring.
func wrongShapes() [][3]int {
	l := [][3]int{{}, {-8, -3, -4}, {math.MinInt, math.MinInt, math.MinInt}, {math.MaxInt, math.MaxInt, math.MaxInt}}
	for _, parts := range []int{math.MinInt, -8, -1, 0, 3, 5, 6, 7, 9, 12, 24, 48, 63, api.MaxParts + 1, 2 * api.MaxParts, 1 << 20, 1 << 62, math.MaxInt} {
		l = append(l, [3]int{parts, 3, 4})
	}
	for _, copies := range []int{math.MinInt, -1, 0, api.MaxCopies + 1, 1 << 32, math.MaxInt} {
		l = append(l, [3]int{8, copies, 4})
	}
	for _, spots := range []int{math.MinInt, -1, 0, api.MaxSpots + 1, 1 << 32, math.MaxInt} {
		l = append(l, [3]int{8, 3, spots})
	}
	return l
}

// wrongRings can't be, each for a reason of its own.
func wrongRings() []api.Ring {
	l := []api.Ring{
		of(member(1, 1, 1, api.RingIn), member(0, 1, 1, api.RingIn)),
		of(member(1, 1, 1, api.RingIn), member(1, 1, 1, api.RingIn)),
		of(member(1, 1, 1, api.RingIn), member(1, 2, 2, api.RingOut)),
		of(member(0, 1, 1, api.RingIn), member(2, 1, 1, api.RingIn), member(1, 1, 1, api.RingIn)),
		of(slices.Repeat([]api.Member{member(1, 1, 1, api.RingIn)}, 1<<17)...),
	}
	wrong := []api.Member{
		{}, member(-1, 1, 1, api.RingIn), member(api.MaxNodes, 1, 1, api.RingIn), member(math.MaxInt, 1, 1, api.RingIn), member(math.MinInt, 1, 1, api.RingIn),
		member(1, 0, 1, api.RingIn), member(1, -1, 1, api.RingIn), member(1, math.MinInt, 1, api.RingIn), member(1, api.MaxEpoch+1, 1, api.RingIn), member(1, math.MaxInt, 1, api.RingIn),
		member(1, 1, 0, api.RingIn), member(1, 1, -1, api.RingIn), member(1, 1, math.MinInt, api.RingIn), member(1, 1, api.MaxStamp+1, api.RingIn), member(1, 1, math.MaxInt, api.RingIn),
		member(1, 1, 1, 0), member(1, 1, 1, -1), member(1, 1, 1, 3), member(1, 1, 1, math.MinInt), member(1, 1, 1, math.MaxInt),
	}
	for _, m := range wrong {
		l = append(l, of(m), of(member(0, 1, 1, api.RingIn), m), of(m, member(7, 1, 1, api.RingIn)))
	}
	for _, s := range wrongShapes() {
		l = append(l, api.Ring{Parts: s[0], Copies: s[1], Spots: s[2]}, api.Ring{Parts: s[0], Copies: s[1], Spots: s[2], Members: sample().Members})
	}
	return l
}

// wrongNodes are no nodes.
func wrongNodes() []int { return []int{math.MinInt, -1, api.MaxNodes, 1 << 32, math.MaxInt} }

func same(a, b api.Ring) bool {
	return a.Parts == b.Parts && a.Copies == b.Copies && a.Spots == b.Spots && slices.Equal(a.Members, b.Members)
}

func isZero(r api.Ring) bool { return same(r, api.Ring{}) }

// roomy is a ring whose list has room behind its end.
func roomy(r api.Ring) api.Ring {
	r.Members = append(make([]api.Member, 0, len(r.Members)+9), r.Members...)
	return r
}

// untouched tells whether a roomy ring is as it was, and the room behind its list too.
func untouched(r, was api.Ring) bool {
	want := roomy(was).Members
	return same(r, was) && slices.Equal(r.Members[:cap(r.Members)], want[:cap(want)])
}

// spoil writes into all of a ring's memory.
func spoil(r api.Ring) {
	all := r.Members[:cap(r.Members)]
	for i := range all {
		all[i] = member(-7, -7, -7, -7)
	}
}

func ok(t *testing.T, what string, e api.Errno) {
	t.Helper()
	if e != api.OK {
		t.Fatalf("%s: %v", what, e)
	}
}

// merge is a merge that must be, of a ring that can be.
func merge(t *testing.T, a, b api.Ring) api.Ring {
	t.Helper()
	r, e := ring.Merge(a, b)
	ok(t, "Merge", e)
	ok(t, "Can of a merge", ring.Can(r))
	return r
}

// place is one of a node's places, and its way from a position.
type place struct {
	node int
	way  uint64
}

// walked is what Walk must tell, made by going around the ring from place to place.
func walked(r api.Ring, position uint64) []int {
	var places []place
	for _, m := range r.Members {
		for i := 0; i < r.Spots && m.Status == api.RingIn; i++ {
			p := ident.Point(m.Node, i)
			way := p - position
			if p < position { // behind the end it goes on at 0
				way = (math.MaxUint64 - position) + 1 + p
			}
			places = append(places, place{m.Node, way})
		}
	}
	slices.SortFunc(places, func(a, b place) int { return cmp.Or(cmp.Compare(a.way, b.way), cmp.Compare(a.node, b.node)) })
	var nodes []int
	for _, p := range places {
		if !slices.Contains(nodes, p.node) {
			nodes = append(nodes, p.node)
		}
	}
	return nodes
}

// positions are some around the ring: partitions' beginnings, nodes' places and the ones beside them, keys'.
func positions() []uint64 {
	l := []uint64{0, 1, math.MaxUint64, 1 << 63, 1<<63 - 1}
	for node := range api.MaxNodes {
		for i := range api.MaxSpots {
			p := ident.Point(node, i)
			l = append(l, p-1, p, p+1)
		}
	}
	for i := range 200 {
		l = append(l, ident.Position("key-"+strconv.Itoa(i)))
	}
	return l
}

// dice are numbers that look thrown, the same ones each time.
type dice struct{ x uint64 }

func (g *dice) below(n int) int {
	g.x = g.x*6364136223846793005 + 1442695040888963407
	return int(g.x >> 33 % uint64(n))
}

// ring has members at few versions, so that two of them often have one in common.
func (g *dice) ring() api.Ring {
	r := of()
	for node := range 4 {
		if g.below(3) > 0 {
			r.Members = append(r.Members, member(node*2, 1+g.below(2), 1+g.below(2), 1+g.below(2)))
		}
	}
	return r
}
