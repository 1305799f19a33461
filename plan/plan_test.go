package plan_test

import (
	"math"
	"slices"
	"testing"

	"trolley/api"
	"trolley/plan"
	"trolley/ring"
)

func TestP10_1Moves(t *testing.T) {
	some, first := 0, 0
	for from, to := range pairs {
		var all []api.Move
		for _, c := range changes(from, to) {
			losers := c.losers()
			for k, gainer := range c.gainers() {
				switch {
				case len(c.old) == 0:
				case k < len(losers):
					all = append(all, api.Move{Part: c.part, From: losers[k], To: gainer})
				default:
					all = append(all, api.Move{Part: c.part, From: c.old[0], To: gainer})
					first++
				}
			}
		}
		if got := moves(t, from, to); !slices.Equal(got, all) {
			t.Fatalf("%v to %v: %v, want %v", from, to, got, all)
		}
		some += len(all)
	}
	if some < 10000 || first < 1000 {
		t.Errorf("%d moves, %d of them from a first owner", some, first)
	}
}

// Of a ring of all nodes' numbers the owners are as many as may be, and few members give to many.
func TestP10_1AtTheEdges(t *testing.T) {
	for empty := range shapes {
		all := with(empty, 0, 1, 2, 3, 4, 5, 6, 7)
		if l := moves(t, empty, all); len(l) != 0 {
			t.Errorf("from nobody: %v", l)
		}
		if l := moves(t, all, empty); len(l) != 0 {
			t.Errorf("to nobody: %v", l)
		}
		one := with(empty, 7)
		for _, m := range moves(t, one, all) {
			if m.From != 7 || m.To == 7 {
				t.Errorf("from one node: %v", m)
			}
		}
		for _, m := range moves(t, all, one) {
			if m.To != 7 || m.From != ring.Owners(all, m.Part)[0] {
				t.Errorf("to one node: %v", m)
			}
		}
	}
}

func TestP10_2GainsAndLosses(t *testing.T) {
	came, went := 0, 0
	for from, to := range pairs {
		for node := range api.MaxNodes {
			var gained, lost []int
			for _, c := range changes(from, to) {
				if slices.Contains(c.gainers(), node) {
					gained = append(gained, c.part)
				}
				if slices.Contains(c.losers(), node) {
					lost = append(lost, c.part)
				}
			}
			if got := gains(t, from, to, node); !slices.Equal(got, gained) {
				t.Fatalf("%v to %v: %d gains %v, want %v", from, to, node, got, gained)
			}
			if got := losses(t, from, to, node); !slices.Equal(got, lost) {
				t.Fatalf("%v to %v: %d loses %v, want %v", from, to, node, got, lost)
			}
			came, went = came+len(gained), went+len(lost)
		}
	}
	if came < 10000 || went < 10000 {
		t.Errorf("%d partitions came, %d went", came, went)
	}
	// Where nobody had anything there are gains all the same, though no moves.
	from, to := of(8, 3, 4), of(8, 3, 4, 5)
	if l := gains(t, from, to, 5); len(l) != 8 {
		t.Errorf("from nobody: %v", l)
	}
	if l := losses(t, to, from, 5); len(l) != 8 {
		t.Errorf("to nobody: %v", l)
	}
}

func TestP10_2WrongNodes(t *testing.T) {
	right := of(8, 3, 4, 0, 1, 2, 3)
	for _, call := range []func(from, to api.Ring, node int) ([]int, api.Errno){plan.Gains, plan.Losses} {
		for _, node := range wrongNodes() {
			for _, r := range append(wrongRings(), right, of(16, 3, 4, 0)) { // a wrong node comes first
				if l, e := call(r, right, node); l != nil || e != api.ErrArg {
					t.Errorf("the node %d: %v, %v", node, l, e)
				}
				if l, e := call(right, r, node); l != nil || e != api.ErrArg {
					t.Errorf("the node %d: %v, %v", node, l, e)
				}
			}
		}
		for node := range api.MaxNodes {
			if _, e := call(right, right, node); e != api.OK {
				t.Errorf("the node %d: %v", node, e)
			}
		}
	}
}

// refused runs the calls of two rings that do not fit.
func refused(t *testing.T, from, to api.Ring) {
	t.Helper()
	if l, e := plan.Moves(from, to); l != nil || e != api.ErrRing {
		t.Errorf("Moves from %v to %v: %v, %v", from, to, l, e)
	}
	for node := range api.MaxNodes {
		if l, e := plan.Gains(from, to, node); l != nil || e != api.ErrRing {
			t.Errorf("Gains from %v to %v: %v, %v", from, to, l, e)
		}
		if l, e := plan.Losses(from, to, node); l != nil || e != api.ErrRing {
			t.Errorf("Losses from %v to %v: %v, %v", from, to, l, e)
		}
	}
	for _, part := range []int{math.MinInt, -1, 0, 7, 8, api.MaxParts, math.MaxInt} { // of a wrong partition too
		if l, e := plan.Sources(from, to, part); l != nil || e != api.ErrRing {
			t.Errorf("Sources from %v to %v: %v, %v", from, to, l, e)
		}
	}
}

func TestP10_1RingsThatDoNotFit(t *testing.T) {
	right := of(8, 3, 4, 0, 1, 2, 3)
	for _, r := range wrongRings() {
		refused(t, r, right)
		refused(t, right, r)
		refused(t, r, r)
		if l, e := plan.Load(r); l != nil || e != api.ErrRing {
			t.Errorf("Load of %v: %v, %v", r, l, e)
		}
	}
	for _, r := range []api.Ring{of(16, 3, 4, 0, 1, 2, 3), of(4, 3, 4, 0, 1, 2, 3), of(8, 2, 4, 0, 1, 2, 3), of(8, 3, 5, 0, 1, 2, 3), of(64, 5, 16), of(1, 1, 1)} {
		refused(t, r, right)
		refused(t, right, r)
	}
}

func TestP10_3Sources(t *testing.T) {
	turned := 0
	for from, to := range pairs {
		for _, c := range changes(from, to) {
			all := append(c.stayers(), c.losers()...)
			if got := sources(t, from, to, c.part); !slices.Equal(got, all) {
				t.Fatalf("%v to %v, %d: %v, want %v", from, to, c.part, got, all)
			}
			if !slices.Equal(all, c.old) {
				turned++
			}
		}
	}
	if turned < 1000 {
		t.Errorf("only %d partitions have an order of their own", turned)
	}
}

func TestP10_3WrongParts(t *testing.T) {
	for empty := range shapes {
		r, parts := with(empty, 0, 3, 7), empty.Parts
		for _, part := range []int{math.MinInt, -1, parts, parts + 1, 1 << 32, math.MaxInt} {
			if l, e := plan.Sources(r, r, part); l != nil || e != api.ErrArg {
				t.Errorf("the partition %d of %d: %v, %v", part, parts, l, e)
			}
		}
		for _, part := range []int{0, parts / 2, parts - 1} {
			if l := sources(t, r, r, part); !slices.Equal(l, ring.Owners(r, part)) {
				t.Errorf("the partition %d of %d: %v", part, parts, l)
			}
			if l := sources(t, empty, r, part); len(l) != 0 {
				t.Errorf("from nobody: %v", l)
			}
			if l := sources(t, r, empty, part); !slices.Equal(l, ring.Owners(r, part)) {
				t.Errorf("to nobody: %v", l)
			}
		}
	}
}

func TestP10_4Load(t *testing.T) {
	for r := range pairs {
		load, e := plan.Load(r)
		ok(t, "Load", e)
		if len(load) != api.MaxNodes {
			t.Fatalf("%v: %v", r, load)
		}
		for node, n := range load {
			for part := range r.Parts {
				if ring.Owns(r, node, part) {
					n--
				}
			}
			if n != 0 {
				t.Fatalf("%v: %v, which is %d too many of %d", r, load, n, node)
			}
		}
	}
	for empty := range shapes {
		none, e := plan.Load(empty)
		ok(t, "Load", e)
		one, e := plan.Load(with(empty, 7))
		ok(t, "Load", e)
		if !slices.Equal(none, make([]int, api.MaxNodes)) || !slices.Equal(one, []int{0, 0, 0, 0, 0, 0, 0, empty.Parts}) {
			t.Errorf("%v, %v", none, one)
		}
	}
}

func TestP10_5NothingToDo(t *testing.T) {
	for r := range pairs {
		for _, to := range []api.Ring{r, turnedOften(t, r)} {
			if l := moves(t, r, to); len(l) != 0 {
				t.Fatalf("%v to itself: %v", r, l)
			}
			for node := range api.MaxNodes {
				if len(gains(t, r, to, node))+len(losses(t, r, to, node)) > 0 {
					t.Fatalf("%v to itself: %d gains, or loses", r, node)
				}
			}
		}
	}
}

// turnedOften is a ring with the same members, each of which left and came back: it is another version.
func turnedOften(t *testing.T, r api.Ring) api.Ring {
	for _, node := range ring.In(r) {
		out, e := ring.Leave(r, node)
		ok(t, "Leave", e)
		r, e = ring.Join(out, node)
		ok(t, "Join", e)
	}
	return r
}

func TestP10_6WhoGains(t *testing.T) {
	for from, to := range pairs {
		l := moves(t, from, to)
		for _, c := range changes(from, to) {
			var gainers []int
			for len(l) > 0 && l[0].Part == c.part {
				if !slices.Contains(c.old, l[0].From) {
					t.Fatalf("%v, which was no owner: %v", l[0], c.old)
				}
				gainers = append(gainers, l[0].To)
				l = l[1:]
			}
			if len(c.old) > 0 && !slices.Equal(gainers, c.gainers()) {
				t.Fatalf("%v to %v: %v gain", c.old, c.now, gainers)
			}
		}
		if len(l) > 0 {
			t.Fatalf("moves in another order: %v", l)
		}
	}
}

func TestP10_7AsManyAsBefore(t *testing.T) {
	for r := range pairs {
		load, e := plan.Load(r)
		ok(t, "Load", e)
		sum := 0
		for _, n := range load {
			sum += n
		}
		if sum != r.Parts*min(r.Copies, len(ring.In(r))) {
			t.Fatalf("%v: %v", r, load)
		}
	}
}

func TestP10_8LittleMoves(t *testing.T) {
	came, went := 0, 0
	for r := range pairs {
		for node := range api.MaxNodes {
			if next, e := ring.Join(r, node); e == api.OK {
				came += little(t, moves(t, r, next), func(m api.Move) bool { return m.To == node && m.From != node })
			}
			if next, e := ring.Leave(r, node); e == api.OK {
				went += little(t, moves(t, r, next), func(m api.Move) bool { return m.To != node })
			}
		}
	}
	if came < 1000 || went < 1000 {
		t.Errorf("%d moves behind a Join, %d behind a Leave", came, went)
	}
}

// little counts moves, of which no partition has two.
func little(t *testing.T, l []api.Move, right func(api.Move) bool) int {
	t.Helper()
	for i, m := range l {
		if i > 0 && l[i-1].Part >= m.Part || !right(m) {
			t.Fatalf("%v", l)
		}
	}
	return len(l)
}

func TestP10_9BothWays(t *testing.T) {
	for a, b := range pairs {
		for node := range api.MaxNodes {
			if !slices.Equal(gains(t, a, b, node), losses(t, b, a, node)) || !slices.Equal(losses(t, a, b, node), gains(t, b, a, node)) {
				t.Fatalf("%v and %v: %d", a, b, node)
			}
		}
	}
}

// Nothing that is handed in is changed, and no two answers share their memory.
func TestMemory(t *testing.T) {
	roomy := func(r api.Ring) api.Ring {
		r.Members = append(make([]api.Member, 0, len(r.Members)+5), r.Members...)
		return r
	}
	from, to := of(8, 3, 4, 0, 1, 2, 3), of(8, 3, 4, 2, 3, 4, 5, 6)
	a, b := roomy(from), roomy(to)
	ask := func() [][]int {
		var l [][]int
		for node := range api.MaxNodes {
			l = append(l, gains(t, a, b, node), losses(t, a, b, node), sources(t, a, b, node))
		}
		load, e := plan.Load(a)
		ok(t, "Load", e)
		return append(l, load)
	}
	first, moved := ask(), moves(t, a, b)
	for i, l := range ask() {
		if !slices.Equal(l, first[i]) {
			t.Fatalf("asked again: %v, and not %v", l, first[i])
		}
		for j := range l[:cap(l)] {
			l[:cap(l)][j] = -7
		}
	}
	for i, l := range ask() {
		if !slices.Equal(l, first[i]) {
			t.Errorf("a spoilt answer spoils %v to %v", first[i], l)
		}
	}
	spoilt := moves(t, a, b)
	for i := range spoilt {
		spoilt[i] = api.Move{Part: -7, From: -7, To: -7}
	}
	if !slices.Equal(moves(t, a, b), moved) || len(moved) == 0 {
		t.Error("a spoilt answer spoils others")
	}
	for _, x := range [][2]api.Ring{{a, from}, {b, to}} {
		was := roomy(x[1]).Members
		if now := x[0].Members; !slices.Equal(now[:cap(now)], was[:cap(was)]) {
			t.Errorf("what was handed in is %v", now[:cap(now)])
		}
	}
}

func TestExamplesOfTheDocument(t *testing.T) {
	three, four := of(8, 3, 4, 0, 1, 2), of(8, 3, 4, 0, 1, 2, 3)
	l := moves(t, three, four)
	for _, m := range l {
		if m.To != 3 || !ring.Owns(three, m.From, m.Part) || ring.Owns(four, m.From, m.Part) {
			t.Errorf("%v", m)
		}
	}
	var parts []int
	for _, m := range l {
		parts = append(parts, m.Part)
	}
	if !slices.Equal(parts, gains(t, three, four, 3)) || len(parts) == 0 {
		t.Errorf("%v, want %v", parts, gains(t, three, four, 3))
	}
	if l := moves(t, of(8, 3, 4), four); len(l) != 0 {
		t.Errorf("from a ring without members: %v", l)
	}
	refused(t, of(8, 3, 4), of(16, 3, 4))
}
