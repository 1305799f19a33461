package causal_test

import (
	"math"
	"slices"
	"testing"

	"trolley/api"
	"trolley/causal"
)

// sample has an actor with a mark and dots above it, one with a mark alone, one with dots alone.
func sample() api.Context {
	return api.Context{
		Marks: []api.Mark{mark(0, 1, 3), mark(2, 5, 1)},
		Cloud: []api.Dot{dot(0, 1, 5), dot(0, 1, 6), dot(1, 1, 2)},
	}
}

func TestP3_2Covers(t *testing.T) {
	c := sample()
	in := []api.Dot{dot(0, 1, 1), dot(0, 1, 2), dot(0, 1, 3), dot(0, 1, 5), dot(0, 1, 6), dot(1, 1, 2), dot(2, 5, 1)}
	for _, d := range in {
		if !causal.Covers(c, d) {
			t.Errorf("%v is not covered", d)
		}
	}
	out := []api.Dot{dot(0, 1, 4), dot(0, 1, 7), dot(0, 1, api.MaxCount), dot(0, 2, 1), dot(1, 1, 1), dot(1, 1, 3),
		dot(2, 5, 2), dot(2, 4, 1), dot(2, 6, 1), dot(3, 5, 1), dot(1, 5, 1)}
	for _, d := range slices.Concat(out, wrongDots()) {
		if causal.Covers(c, d) {
			t.Errorf("%v is covered", d)
		}
	}
	most := marks(mark(7, api.MaxLife, api.MaxCount))
	for _, count := range []int{1, 2, api.MaxCount - 1, api.MaxCount} {
		if !causal.Covers(most, dot(7, api.MaxLife, count)) {
			t.Errorf("the count %d is not covered", count)
		}
	}
	for _, count := range []int{math.MinInt, -1, 0, api.MaxCount + 1, math.MaxInt} {
		if causal.Covers(most, dot(7, api.MaxLife, count)) {
			t.Errorf("the count %d is covered", count)
		}
	}
	for _, d := range rightDots() {
		if causal.Covers(api.Context{}, d) {
			t.Errorf("the empty context covers %v", d)
		}
	}
}

func TestP3_2Leq(t *testing.T) {
	low := api.Context{Marks: []api.Mark{mark(0, 1, 2)}, Cloud: []api.Dot{dot(0, 1, 5), dot(1, 1, 2)}}
	cases := []struct {
		a, b         api.Context
		there, other bool // is a at most b, and b at most a
	}{
		{api.Context{}, api.Context{}, true, true},
		{api.Context{}, marks(mark(0, 1, 1)), true, false},
		{marks(mark(0, 1, 2)), marks(mark(0, 1, 2)), true, true},
		{marks(mark(0, 1, 1)), marks(mark(0, 1, 2)), true, false},
		{marks(mark(0, 1, 1)), marks(mark(0, 2, 1)), false, false},
		{marks(mark(0, 1, 1)), marks(mark(1, 1, 1)), false, false},
		{marks(mark(0, 1, 1)), cloud(dot(0, 1, 2)), false, false},
		{cloud(dot(0, 1, 2)), marks(mark(0, 1, 2)), true, false},
		{cloud(dot(0, 1, 3)), marks(mark(0, 1, 2)), false, false},
		{marks(mark(0, 1, 3)), api.Context{Marks: []api.Mark{mark(0, 1, 1)}, Cloud: []api.Dot{dot(0, 1, 3)}}, false, true},
		{cloud(dot(0, 1, 2)), cloud(dot(0, 1, 2), dot(0, 1, 4)), true, false},
		{low, sample(), true, false},
		{sample(), sample(), true, true},
		{fullest(), fullest(), true, true},
		{marks(manyMarks(64, 1)...), marks(manyMarks(64, api.MaxCount)...), true, false},
	}
	for _, c := range cases {
		if causal.Leq(c.a, c.b) != c.there || causal.Leq(c.b, c.a) != c.other {
			t.Errorf("Leq of %v and %v: %v, %v", c.a, c.b, causal.Leq(c.a, c.b), causal.Leq(c.b, c.a))
		}
	}
}

func TestP3_2Add(t *testing.T) {
	cases := []struct {
		c    api.Context
		d    api.Dot
		want api.Context
	}{
		{api.Context{}, dot(0, 1, 1), marks(mark(0, 1, 1))},
		{api.Context{}, dot(0, 1, 2), cloud(dot(0, 1, 2))},
		{cloud(dot(0, 1, 2)), dot(0, 1, 1), marks(mark(0, 1, 2))},
		{cloud(dot(0, 1, 2)), dot(0, 2, 1), api.Context{Marks: []api.Mark{mark(0, 2, 1)}, Cloud: []api.Dot{dot(0, 1, 2)}}},
		{sample(), dot(0, 1, 4), api.Context{Marks: []api.Mark{mark(0, 1, 6), mark(2, 5, 1)}, Cloud: []api.Dot{dot(1, 1, 2)}}},
		{sample(), dot(0, 1, 3), sample()},
		{sample(), dot(0, 1, 6), sample()},
		{marks(mark(0, 1, api.MaxCount-1)), dot(0, 1, api.MaxCount), marks(mark(0, 1, api.MaxCount))},
		{marks(mark(0, 1, api.MaxCount)), dot(0, 1, api.MaxCount), marks(mark(0, 1, api.MaxCount))},
	}
	for _, c := range cases {
		if got, e := causal.Add(c.c, c.d); e != api.OK || !same(got, c.want) {
			t.Errorf("Add(%v, %v): %v, %v", c.c, c.d, got, e)
		}
	}
}

func TestP3_2AddErrors(t *testing.T) {
	for _, d := range wrongDots() {
		for _, c := range []api.Context{{}, sample(), fullest()} {
			if got, e := causal.Add(c, d); e != api.ErrArg || !isEmpty(got) {
				t.Errorf("Add(%v, %v): %v, %v", c, d, got, e)
			}
		}
	}
	c := fullest()
	for _, d := range []api.Dot{dot(7, 500, 1), dot(0, 1, 1000), dot(7, 500, 2), dot(0, 1, 4000)} {
		if got, e := causal.Add(c, d); e != api.ErrLong || !isEmpty(got) {
			t.Errorf("Add(the fullest, %v): %v, %v", d, got, e)
		}
	}
	got, e := causal.Add(c, dot(0, 1, 2))
	if e != api.OK || got.Marks[0] != mark(0, 1, 3) || len(got.Cloud) != api.MaxCloud-1 {
		t.Errorf("Add of a dot that fills a gap: %v, %v", got, e)
	}
	if got, e := causal.Add(c, dot(0, 1, 3)); e != api.OK || !same(got, c) {
		t.Errorf("Add of a dot that is there: %v, %v", got, e)
	}
	if got, e := causal.Add(marks(manyMarks(64, 1)...), dot(7, 500, 2)); e != api.OK || len(got.Cloud) != 1 {
		t.Errorf("Add beside the most marks: %v, %v", got, e)
	}
	if got, e := causal.Add(cloud(manyDots(64, 0, 1)...), dot(7, 500, 1)); e != api.OK || len(got.Marks) != 1 {
		t.Errorf("Add beside the most dots: %v, %v", got, e)
	}
}

func TestP3_2Join(t *testing.T) {
	a := api.Context{Marks: []api.Mark{mark(0, 1, 2)}, Cloud: []api.Dot{dot(0, 1, 4)}}
	cases := []struct{ a, b, want api.Context }{
		{api.Context{}, api.Context{}, api.Context{}},
		{api.Context{}, sample(), sample()},
		{a, marks(mark(0, 1, 3)), marks(mark(0, 1, 4))},
		{a, marks(mark(0, 2, 3)), api.Context{Marks: []api.Mark{mark(0, 1, 2), mark(0, 2, 3)}, Cloud: []api.Dot{dot(0, 1, 4)}}},
		{a, cloud(dot(0, 1, 3), dot(0, 1, 6)), api.Context{Marks: []api.Mark{mark(0, 1, 4)}, Cloud: []api.Dot{dot(0, 1, 6)}}},
		{cloud(dot(0, 1, 2)), marks(mark(0, 1, 1)), marks(mark(0, 1, 2))},
		{fullest(), fullest(), fullest()},
		{fullest(), marks(mark(0, 1, api.MaxCount)), marks(append([]api.Mark{mark(0, 1, api.MaxCount)}, manyMarks(64, 1)[1:]...)...)},
	}
	for _, c := range cases {
		got, e := causal.Join(c.a, c.b)
		turned, f := causal.Join(c.b, c.a)
		if e != api.OK || f != api.OK || !same(got, c.want) || !same(turned, c.want) {
			t.Errorf("Join of %v and %v: %v, %v, %v, %v", c.a, c.b, got, e, turned, f)
		}
	}
}

func TestP3_2JoinLong(t *testing.T) {
	odd := cloud(manyDots(api.MaxCloud, 0, 1)...)
	var even api.Context
	for _, d := range odd.Cloud {
		even.Cloud = append(even.Cloud, dot(0, 1, d.Count+1))
	}
	half := cloud(odd.Cloud[:32]...)
	long := [][2]api.Context{
		{marks(manyMarks(api.MaxMarks, 1)...), marks(mark(7, 999, 1))},
		{odd, cloud(dot(7, 999, 2))},
		{odd, even},
		{half, cloud(manyDots(33, 1, 1)...)},
	}
	for _, l := range long {
		for _, pair := range [][2]api.Context{l, {l[1], l[0]}} {
			if got, e := causal.Join(pair[0], pair[1]); e != api.ErrLong || !isEmpty(got) {
				t.Errorf("Join of %v and %v: %v, %v", pair[0], pair[1], got, e)
			}
		}
	}
	if got, e := causal.Join(half, cloud(manyDots(32, 1, 1)...)); e != api.OK || len(got.Cloud) != api.MaxCloud {
		t.Errorf("Join of half and half: %v, %v", got, e)
	}
	low, e := causal.Join(even, marks(mark(0, 1, 2)))
	ok(t, "Join", e)
	if got, e := causal.Join(odd, low); e != api.OK || !same(got, marks(mark(0, 1, 4+2*(api.MaxCloud-1)))) {
		t.Errorf("Join of two clouds without a gap: %v, %v", got, e)
	}
}

func TestP3_2Prune(t *testing.T) {
	c := sample()
	cases := []struct {
		a    api.Actor
		want api.Context
	}{
		{actor(0, 1), api.Context{Marks: []api.Mark{mark(2, 5, 1)}, Cloud: []api.Dot{dot(1, 1, 2)}}},
		{actor(1, 1), api.Context{Marks: c.Marks, Cloud: c.Cloud[:2]}},
		{actor(2, 5), api.Context{Marks: c.Marks[:1], Cloud: c.Cloud}},
		{actor(0, 2), c}, {actor(1, 5), c}, {actor(2, 1), c}, {actor(0, 0), c}, {actor(-1, 1), c},
		{actor(math.MaxInt, math.MinInt), c},
	}
	for _, p := range cases {
		if got := causal.Prune(c, p.a); !same(got, p.want) {
			t.Errorf("Prune of %v: %v", p.a, got)
		}
	}
	if got := causal.Prune(api.Context{}, actor(0, 1)); !isEmpty(got) {
		t.Errorf("Prune of the empty context: %v", got)
	}
	if got := causal.Prune(fullest(), actor(0, 1)); !same(got, marks(manyMarks(64, 1)[1:]...)) {
		t.Errorf("Prune of the fullest: %v", got)
	}
}

func TestP3_2Top(t *testing.T) {
	cases := []struct {
		a    api.Actor
		want int
	}{
		{actor(0, 1), 6}, {actor(1, 1), 2}, {actor(2, 5), 1}, {actor(0, 2), 0}, {actor(1, 5), 0}, {actor(3, 1), 0},
		{actor(0, 0), 0}, {actor(-1, 1), 0}, {actor(math.MaxInt, math.MaxInt), 0},
	}
	for _, c := range cases {
		if n := causal.Top(sample(), c.a); n != c.want {
			t.Errorf("Top of %v: %d", c.a, n)
		}
	}
	for _, d := range rightDots() {
		a := actor(d.Node, d.Life)
		if causal.Top(marks(api.Mark(d)), a) != d.Count || causal.Top(contextOf(setOf(d)), a) != d.Count || causal.Top(api.Context{}, a) != 0 {
			t.Errorf("Top of %v", d)
		}
	}
}

func TestP3_2Size(t *testing.T) {
	cases := []struct {
		c    api.Context
		want int
	}{
		{api.Context{}, 0}, {sample(), 7}, {marks(mark(0, 1, api.MaxCount)), api.MaxCount}, {cloud(dot(0, 1, api.MaxCount)), 1},
		{fullest(), api.MaxMarks + api.MaxCloud}, {marks(manyMarks(api.MaxMarks, api.MaxCount)...), api.MaxMarks * api.MaxCount},
	}
	for _, c := range cases {
		if n := causal.Size(c.c); n != c.want {
			t.Errorf("Size(%v): %d", c.c, n)
		}
	}
}

// Every pair of sets of two actors' dots, held against the sets.
func TestP3_2OfAllSmallSets(t *testing.T) {
	dots := append(upToOf(actor(0, 1), 4), upToOf(actor(1, 2), 3)...)
	sets := subsets(dots)
	var contexts []api.Context
	for _, s := range sets {
		c := contextOf(s)
		contexts = append(contexts, c)
		if got := normal(t, s); !same(got, c) || causal.Size(c) != len(s) {
			t.Fatalf("%v: %v, of size %d", s, got, causal.Size(c))
		}
		for _, d := range dots {
			if causal.Covers(c, d) != s[d] {
				t.Fatalf("%v covers %v: %v", c, d, !s[d])
			}
			if got, e := causal.Add(c, d); e != api.OK || !same(got, contextOf(union(s, setOf(d)))) {
				t.Fatalf("Add(%v, %v): %v, %v", c, d, got, e)
			}
		}
	}
	for i, a := range contexts {
		for j, b := range contexts {
			if causal.Leq(a, b) != within(sets[i], sets[j]) {
				t.Fatalf("Leq(%v, %v) is %v", a, b, causal.Leq(a, b))
			}
			if got, e := causal.Join(a, b); e != api.OK || !same(got, contexts[i|j]) {
				t.Fatalf("Join(%v, %v): %v, %v", a, b, got, e)
			}
		}
	}
}

func TestP3_2ContextsThatCantBe(t *testing.T) {
	for why, c := range wrongContexts() {
		for _, other := range []api.Context{{}, sample(), c} {
			got, e := causal.Join(c, other)
			turned, f := causal.Join(other, c)
			if e != api.ErrDots || f != api.ErrDots || !isEmpty(got) || !isEmpty(turned) {
				t.Errorf("%s: Join: %v, %v", why, e, f)
			}
			causal.Leq(c, other)
			causal.Leq(other, c)
		}
		for _, d := range append(wrongDots(), rightDots()...) {
			if got, e := causal.Add(c, d); e != api.ErrDots || !isEmpty(got) {
				t.Errorf("%s: Add: %v, %v", why, got, e)
			}
			causal.Covers(c, d)
			causal.Prune(c, actor(d.Node, d.Life))
			causal.Top(c, actor(d.Node, d.Life))
		}
		if n := causal.Size(c); n < 0 || n > 1<<62 {
			t.Errorf("%s: Size: %d", why, n)
		}
		if b, e := causal.Encode([]byte{1}, c); e != api.ErrDots || len(b) != 0 {
			t.Errorf("%s: Encode: %x, %v", why, b, e)
		}
	}
}

func TestP3_2Memory(t *testing.T) {
	roomy := func() api.Context {
		return api.Context{Marks: append(make([]api.Mark, 0, 9), sample().Marks...), Cloud: append(make([]api.Dot, 0, 9), sample().Cloud...)}
	}
	a, b := roomy(), roomy()
	apart := func(what string, got api.Context) {
		t.Helper()
		spoil(got)
		for _, c := range []api.Context{a, b} {
			if !same(c, sample()) || !same(api.Context{Marks: c.Marks[:9], Cloud: c.Cloud[:9]}, api.Context{Marks: roomy().Marks[:9], Cloud: roomy().Cloud[:9]}) {
				t.Errorf("%s changes what is handed in, or shares it", what)
			}
		}
	}
	calls := map[string]func() (api.Context, api.Errno){
		"Add":      func() (api.Context, api.Errno) { return causal.Add(a, dot(0, 1, 4)) },
		"Add less": func() (api.Context, api.Errno) { return causal.Add(a, dot(0, 1, 3)) },
		"Join":     func() (api.Context, api.Errno) { return causal.Join(a, b) },
		"and none": func() (api.Context, api.Errno) { return causal.Join(a, api.Context{}) },
		"Prune":    func() (api.Context, api.Errno) { return causal.Prune(a, actor(0, 1)), api.OK },
		"nothing":  func() (api.Context, api.Errno) { return causal.Prune(a, actor(7, 1)), api.OK },
	}
	for what, call := range calls {
		got, e := call()
		ok(t, what, e)
		apart(what, got)
	}
	causal.Covers(a, dot(0, 1, 4))
	causal.Leq(a, b)
	causal.Top(a, actor(0, 1))
	causal.Size(a)
	apart("what answers numbers", api.Context{})
}
