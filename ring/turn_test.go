package ring_test

import (
	"math"
	"slices"
	"testing"

	"trolley/api"
	"trolley/ring"
)

func TestP6_1New(t *testing.T) {
	for parts := -1; parts <= 2*api.MaxParts+1; parts++ {
		for copies := -1; copies <= api.MaxCopies+2; copies++ {
			for spots := -1; spots <= api.MaxSpots+2; spots++ {
				right := slices.Contains([]int{1, 2, 4, 8, 16, 32, 64}, parts) && 1 <= copies && copies <= 5 && 1 <= spots && spots <= 16
				r, e := ring.New(parts, copies, spots)
				if right && (e != api.OK || !same(r, api.Ring{Parts: parts, Copies: copies, Spots: spots})) || !right && (e != api.ErrArg || !isZero(r)) {
					t.Fatalf("New(%d, %d, %d): %v, %v", parts, copies, spots, r, e)
				}
			}
		}
	}
	for _, s := range wrongShapes() {
		if r, e := ring.New(s[0], s[1], s[2]); e != api.ErrArg || !isZero(r) {
			t.Errorf("New(%v): %v, %v", s, r, e)
		}
	}
}

func TestP6_1Can(t *testing.T) {
	for _, r := range rightRings() {
		if e := ring.Can(r); e != api.OK {
			t.Errorf("%v: %v", r, e)
		}
	}
	for i, r := range wrongRings() {
		if e := ring.Can(r); e != api.ErrRing {
			t.Errorf("the wrong ring %d: %v", i, e)
		}
	}
}

// turned looks at what Join or Leave makes of a ring that it must not change.
func turned(t *testing.T, why string, turn func(api.Ring, int) (api.Ring, api.Errno), r api.Ring, node int, want api.Ring) {
	t.Helper()
	given := roomy(r)
	got, e := turn(given, node)
	if e != api.OK || !same(got, want) {
		t.Errorf("%s: %v, %v; want %v", why, got, e, want)
	}
	spoil(got)
	if !untouched(given, r) {
		t.Errorf("%s: the ring has changed", why)
	}
}

func notTurned(t *testing.T, why string, turn func(api.Ring, int) (api.Ring, api.Errno), r api.Ring, node int, want api.Errno) {
	t.Helper()
	given := roomy(r)
	if got, e := turn(given, node); e != want || !isZero(got) || !untouched(given, r) {
		t.Errorf("%s: %v, %v; want %v", why, got, e, want)
	}
}

func TestP6_2Join(t *testing.T) {
	s := sample().Members
	turned(t, "the first one", ring.Join, of(), 3, of(member(3, 1, 1, api.RingIn)))
	turned(t, "one ahead", ring.Join, of(s[2:]...), 0, of(member(0, 1, 1, api.RingIn), s[2], s[3]))
	turned(t, "one between", ring.Join, sample(), 1, of(s[0], member(1, 1, 1, api.RingIn), s[1], s[2], s[3]))
	turned(t, "one behind", ring.Join, of(s[:3]...), 7, of(s[0], s[1], s[2], member(7, 1, 1, api.RingIn)))
	turned(t, "one that left", ring.Join, sample(), 2, of(s[0], member(2, 2, 3, api.RingIn), s[2], s[3]))
	turned(t, "the last time by Epoch", ring.Join, of(member(2, api.MaxEpoch-1, 7, api.RingOut)), 2, of(member(2, api.MaxEpoch, 8, api.RingIn)))
	turned(t, "the last time by Stamp", ring.Join, of(member(2, 7, api.MaxStamp-1, api.RingOut)), 2, of(member(2, 8, api.MaxStamp, api.RingIn)))
	notTurned(t, "one that is in", ring.Join, sample(), 0, api.ErrThere)
	notTurned(t, "one that is in at the greatest", ring.Join, of(member(2, api.MaxEpoch, api.MaxStamp, api.RingIn)), 2, api.ErrThere)
	notTurned(t, "the greatest Epoch", ring.Join, of(member(2, api.MaxEpoch, 7, api.RingOut)), 2, api.ErrFull)
	notTurned(t, "the greatest Stamp", ring.Join, of(member(2, 7, api.MaxStamp, api.RingOut)), 2, api.ErrFull)
	notTurned(t, "the greatest of both", ring.Join, of(member(2, api.MaxEpoch, api.MaxStamp, api.RingOut)), 2, api.ErrFull)
}

func TestP6_2Leave(t *testing.T) {
	s := sample().Members
	turned(t, "the first one", ring.Leave, sample(), 0, of(member(0, 2, 4, api.RingOut), s[1], s[2], s[3]))
	turned(t, "the last one", ring.Leave, sample(), 7, of(s[0], s[1], s[2], member(7, 4, 10, api.RingOut)))
	turned(t, "the only one", ring.Leave, of(member(3, 1, 1, api.RingIn)), 3, of(member(3, 1, 2, api.RingOut)))
	turned(t, "the greatest Epoch", ring.Leave, of(member(3, api.MaxEpoch, 1, api.RingIn)), 3, of(member(3, api.MaxEpoch, 2, api.RingOut)))
	turned(t, "the last time", ring.Leave, of(member(3, 1, api.MaxStamp-1, api.RingIn)), 3, of(member(3, 1, api.MaxStamp, api.RingOut)))
	notTurned(t, "none of a ring without members", ring.Leave, of(), 0, api.ErrAbsent)
	notTurned(t, "none", ring.Leave, sample(), 1, api.ErrAbsent)
	notTurned(t, "one that left", ring.Leave, sample(), 2, api.ErrAbsent)
	notTurned(t, "one that left at the greatest", ring.Leave, of(member(3, 1, api.MaxStamp, api.RingOut)), 3, api.ErrAbsent)
	notTurned(t, "the greatest Stamp", ring.Leave, of(member(3, 1, api.MaxStamp, api.RingIn)), 3, api.ErrFull)
}

func TestP6_2TurnedWrongly(t *testing.T) {
	for _, turn := range []func(api.Ring, int) (api.Ring, api.Errno){ring.Join, ring.Leave} {
		for _, node := range wrongNodes() {
			notTurned(t, "no node", turn, sample(), node, api.ErrArg)
			notTurned(t, "no node, and no ring", turn, api.Ring{}, node, api.ErrArg)
		}
		for _, r := range wrongRings() {
			for node := range api.MaxNodes {
				notTurned(t, "no ring", turn, r, node, api.ErrRing)
			}
		}
	}
}

func TestP6_3Merge(t *testing.T) {
	in, out := api.RingIn, api.RingOut
	cases := []struct {
		why        string
		a, b, want api.Ring
	}{
		{"nothing and nothing", of(), of(), of()},
		{"nothing and something", of(), sample(), sample()},
		{"twice the same", sample(), sample(), sample()},
		{"other nodes", of(member(0, 1, 1, in), member(5, 1, 1, in)), of(member(2, 1, 2, out), member(7, 1, 1, in)),
			of(member(0, 1, 1, in), member(2, 1, 2, out), member(5, 1, 1, in), member(7, 1, 1, in))},
		{"one left", of(member(1, 1, 1, in)), of(member(1, 1, 2, out)), of(member(1, 1, 2, out))},
		{"the Epoch ahead of the Stamp", of(member(1, 2, 1, in)), of(member(1, 1, 9, out)), of(member(1, 2, 1, in))},
		{"the Epoch ahead of the Status", of(member(1, 2, 5, in)), of(member(1, 1, 5, out)), of(member(1, 2, 5, in))},
		{"the Stamp ahead of the Status", of(member(1, 2, 5, in)), of(member(1, 2, 4, out)), of(member(1, 2, 5, in))},
		{"the Status", of(member(1, 2, 5, in)), of(member(1, 2, 5, out)), of(member(1, 2, 5, out))},
		{"each has a later one", of(member(1, 1, 1, in), member(2, 3, 4, in)), of(member(1, 1, 2, out), member(2, 2, 9, out)), of(member(1, 1, 2, out), member(2, 3, 4, in))},
		{"the greatest", of(member(1, api.MaxEpoch, api.MaxStamp, in)), of(member(1, api.MaxEpoch, api.MaxStamp-1, out)), of(member(1, api.MaxEpoch, api.MaxStamp, in))},
	}
	for _, c := range cases {
		for _, pair := range [][2]api.Ring{{c.a, c.b}, {c.b, c.a}} {
			a, b := roomy(pair[0]), roomy(pair[1])
			got, e := ring.Merge(a, b)
			if e != api.OK || !same(got, c.want) {
				t.Errorf("%s: %v, %v; want %v", c.why, got, e, c.want)
			}
			spoil(got)
			if !untouched(a, pair[0]) || !untouched(b, pair[1]) {
				t.Errorf("%s: the rings have changed", c.why)
			}
		}
	}
}

func TestP6_3MergeErrors(t *testing.T) {
	refused := func(why string, a, b api.Ring) {
		t.Helper()
		if r, e := ring.Merge(a, b); e != api.ErrRing || !isZero(r) {
			t.Errorf("%s: %v, %v", why, r, e)
		}
		if ring.Leq(a, b) {
			t.Errorf("%s: Leq", why)
		}
	}
	for _, r := range wrongRings() {
		refused("the first one can't be", r, sample())
		refused("the second one can't be", sample(), r)
		refused("both can't be", r, r)
	}
	for i, r := range []api.Ring{shaped(8, 3, 4), shaped(16, 3, 4), shaped(8, 2, 4), shaped(8, 3, 5)} {
		if i > 0 {
			refused("another shape", r, shaped(8, 3, 4))
			refused("another shape", of(), api.Ring{Parts: r.Parts, Copies: r.Copies, Spots: r.Spots})
		}
	}
}

func TestP6_3Leq(t *testing.T) {
	in, out := api.RingIn, api.RingOut
	cases := []struct {
		a, b        api.Ring
		there, back bool
	}{
		{of(), of(), true, true},
		{of(), sample(), true, false},
		{sample(), sample(), true, true},
		{of(member(1, 1, 1, in)), of(member(2, 1, 1, in)), false, false},
		{of(member(1, 1, 1, in)), of(member(1, 1, 2, out)), true, false},
		{of(member(1, 1, 9, out)), of(member(1, 2, 1, in)), true, false},
		{of(member(1, 1, 1, in)), of(member(1, 1, 1, out)), true, false},
		{of(member(1, 1, 1, in), member(2, 1, 2, out)), of(member(1, 1, 2, out), member(2, 1, 1, in)), false, false},
		{of(member(1, 1, 1, in)), of(member(1, 1, 2, out), member(2, 1, 1, in)), true, false},
	}
	for _, c := range cases {
		a, b := roomy(c.a), roomy(c.b)
		if there, back := ring.Leq(a, b), ring.Leq(b, a); there != c.there || back != c.back {
			t.Errorf("Leq(%v, %v): %v, back %v", c.a, c.b, there, back)
		}
		if !untouched(a, c.a) || !untouched(b, c.b) {
			t.Errorf("Leq has changed %v or %v", c.a, c.b)
		}
	}
}

func TestP6_3Same(t *testing.T) {
	for i, a := range slices.Concat(rightRings(), wrongRings()) {
		for j, b := range slices.Concat(rightRings(), wrongRings()) {
			if want := i == j || same(a, b); ring.Same(a, b) != want {
				t.Fatalf("Same(%v, %v) is not %v", a, b, want)
			}
		}
	}
	if !ring.Same(api.Ring{}, api.Ring{Members: []api.Member{}}) || !ring.Same(api.Ring{Members: []api.Member{}}, api.Ring{}) {
		t.Error("nil and empty are not alike")
	}
	for i, turn := range []func(r *api.Ring){
		func(r *api.Ring) { r.Parts = 16 },
		func(r *api.Ring) { r.Copies-- },
		func(r *api.Ring) { r.Spots++ },
		func(r *api.Ring) { r.Members[1].Node-- },
		func(r *api.Ring) { r.Members[1].Epoch++ },
		func(r *api.Ring) { r.Members[1].Stamp++ },
		func(r *api.Ring) { r.Members[1].Status = api.RingIn },
		func(r *api.Ring) { r.Members = r.Members[:3] },
		func(r *api.Ring) { r.Members = r.Members[1:] },
		func(r *api.Ring) { r.Members = nil },
		func(r *api.Ring) { slices.Reverse(r.Members) },
		func(r *api.Ring) { r.Copies = math.MinInt },
	} {
		r := sample()
		turn(&r)
		if ring.Same(r, sample()) || ring.Same(sample(), r) {
			t.Errorf("turn %d is not seen", i)
		}
	}
}
