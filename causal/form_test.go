package causal_test

import (
	"slices"
	"testing"

	"trolley/api"
	"trolley/causal"
)

func TestP3_1Can(t *testing.T) {
	for _, c := range rightContexts() {
		if !causal.Can(c) {
			t.Errorf("%v can't be", c)
		}
	}
	for why, c := range wrongContexts() {
		if causal.Can(c) {
			t.Errorf("%s: it can be", why)
		}
	}
}

// Each context of short lists is held against the one form of its dots.
func TestP3_1CanOfAll(t *testing.T) {
	some := []api.Dot{dot(0, 1, 1), dot(0, 1, 2), dot(0, 1, 3), dot(0, 2, 1), dot(0, 2, 3), dot(1, 1, 2)}
	lists := [][]api.Dot{nil}
	for i := 0; i < len(lists) && len(lists[i]) < 3; i++ {
		for _, d := range some {
			lists = append(lists, append(slices.Clone(lists[i]), d))
		}
	}
	can := 0
	for _, ms := range lists {
		for _, ds := range lists {
			c := api.Context{Cloud: ds}
			for _, d := range ms {
				c.Marks = append(c.Marks, api.Mark(d))
			}
			if causal.Can(c) != same(c, contextOf(dotsOf(c))) {
				t.Fatalf("Can(%v) is %v", c, causal.Can(c))
			}
			if causal.Can(c) {
				can++
			}
		}
	}
	if can < 100 {
		t.Errorf("only %d contexts can be", can)
	}
}

func TestP3_1Normal(t *testing.T) {
	cases := []struct {
		marks []api.Mark
		dots  []api.Dot
		want  api.Context
	}{
		{nil, nil, api.Context{}},
		{[]api.Mark{}, []api.Dot{}, api.Context{}},
		{nil, []api.Dot{dot(2, 3, 1), dot(2, 3, 3), dot(2, 3, 2)}, marks(mark(2, 3, 3))},
		{nil, []api.Dot{dot(2, 3, 3), dot(2, 3, 1)}, api.Context{Marks: []api.Mark{mark(2, 3, 1)}, Cloud: []api.Dot{dot(2, 3, 3)}}},
		{nil, []api.Dot{dot(2, 3, 2)}, cloud(dot(2, 3, 2))},
		{nil, slices.Repeat([]api.Dot{dot(2, 3, 2)}, 1000), cloud(dot(2, 3, 2))},
		{slices.Repeat([]api.Mark{mark(0, 1, 4)}, 1000), nil, marks(mark(0, 1, 4))},
		{[]api.Mark{mark(0, 1, 3), mark(0, 1, 5), mark(0, 1, 2)}, nil, marks(mark(0, 1, 5))},
		{[]api.Mark{mark(0, 1, 3)}, []api.Dot{dot(0, 1, 5), dot(0, 1, 2), dot(0, 1, 4), dot(0, 1, 7)},
			api.Context{Marks: []api.Mark{mark(0, 1, 5)}, Cloud: []api.Dot{dot(0, 1, 7)}}},
		{[]api.Mark{mark(1, 2, 2), mark(1, 1, 9), mark(0, 9, 1)}, []api.Dot{dot(1, 1, 10), dot(1, 2, 10), dot(0, 8, 1)},
			api.Context{Marks: []api.Mark{mark(0, 8, 1), mark(0, 9, 1), mark(1, 1, 10), mark(1, 2, 2)}, Cloud: []api.Dot{dot(1, 2, 10)}}},
		{[]api.Mark{mark(0, 1, api.MaxCount)}, []api.Dot{dot(0, 1, api.MaxCount)}, marks(mark(0, 1, api.MaxCount))},
		{[]api.Mark{mark(0, 1, api.MaxCount-1)}, []api.Dot{dot(0, 1, api.MaxCount)}, marks(mark(0, 1, api.MaxCount))},
		{[]api.Mark{mark(0, 1, api.MaxCount-2)}, []api.Dot{dot(0, 1, api.MaxCount)},
			api.Context{Marks: []api.Mark{mark(0, 1, api.MaxCount-2)}, Cloud: []api.Dot{dot(0, 1, api.MaxCount)}}},
	}
	for _, c := range cases {
		if got, e := causal.Normal(c.marks, c.dots); e != api.OK || !same(got, c.want) {
			t.Errorf("Normal(%v, %v): %v, %v; want %v", c.marks, c.dots, got, e, c.want)
		}
	}
	for _, d := range rightDots() {
		m, e := causal.Normal([]api.Mark{api.Mark(d)}, nil)
		if e != api.OK || !same(m, marks(api.Mark(d))) {
			t.Errorf("Normal of the mark %v: %v, %v", d, m, e)
		}
		c, e := causal.Normal(nil, []api.Dot{d})
		if e != api.OK || !same(c, contextOf(setOf(d))) {
			t.Errorf("Normal of the dot %v: %v, %v", d, c, e)
		}
	}
}

func TestP3_1NormalInAnyOrder(t *testing.T) {
	g := &dice{x: 31}
	for range 5000 {
		ms, ds := g.marks(6), g.dots(20)
		want := contextOf(dotsOf(api.Context{Marks: ms, Cloud: ds}))
		for range 3 {
			if got, e := causal.Normal(ms, ds); e != api.OK || !same(got, want) {
				t.Fatalf("Normal(%v, %v): %v, %v; want %v", ms, ds, got, e, want)
			}
			ms, ds = slices.Concat(ms, ms), slices.Concat(ds, ds[len(ds)/2:])
			slices.Reverse(ms)
			slices.Reverse(ds)
		}
	}
}

func TestP3_1NormalArg(t *testing.T) {
	long := manyDots(api.MaxCloud+1, 0, 1)
	for _, d := range wrongDots() {
		m := api.Mark(d)
		for i, call := range []func() (api.Context, api.Errno){
			func() (api.Context, api.Errno) { return causal.Normal([]api.Mark{m}, nil) },
			func() (api.Context, api.Errno) { return causal.Normal(nil, []api.Dot{d}) },
			func() (api.Context, api.Errno) { return causal.Normal([]api.Mark{mark(0, 1, 9), m}, nil) },
			func() (api.Context, api.Errno) { return causal.Normal([]api.Mark{m, mark(0, 1, 9)}, nil) },
			func() (api.Context, api.Errno) { return causal.Normal([]api.Mark{mark(0, 1, 9)}, []api.Dot{d}) },
			func() (api.Context, api.Errno) { return causal.Normal(nil, append(slices.Clone(long), d)) },
			func() (api.Context, api.Errno) { return causal.Normal([]api.Mark{m}, long) },
		} {
			if c, e := call(); e != api.ErrArg || !isEmpty(c) {
				t.Errorf("%v, case %d: %v, %v", d, i, c, e)
			}
		}
	}
}

func TestP3_1NormalLong(t *testing.T) {
	long := func(what string, ms []api.Mark, ds []api.Dot) {
		t.Helper()
		if c, e := causal.Normal(ms, ds); e != api.ErrLong || !isEmpty(c) {
			t.Errorf("%s: %v, %v", what, c, e)
		}
	}
	whole := func(what string, ms []api.Mark, ds []api.Dot, nMarks, nCloud int) {
		t.Helper()
		c, e := causal.Normal(ms, ds)
		if e != api.OK || !causal.Can(c) || len(c.Marks) != nMarks || len(c.Cloud) != nCloud {
			t.Errorf("%s: %v, %v", what, c, e)
		}
	}
	ones := func(n int) []api.Dot {
		var l []api.Dot
		for _, m := range manyMarks(n, 1) {
			l = append(l, api.Dot(m))
		}
		return l
	}
	whole("the most marks", manyMarks(api.MaxMarks, 5), nil, api.MaxMarks, 0)
	long("a mark too many", manyMarks(api.MaxMarks+1, 5), nil)
	whole("the most marks made of dots", nil, ones(api.MaxMarks), api.MaxMarks, 0)
	long("a mark too many made of dots", nil, ones(api.MaxMarks+1))
	long("a mark too many made of a dot", manyMarks(api.MaxMarks, 5), []api.Dot{dot(0, api.MaxLife, 1)})
	whole("a dot beside the most marks", manyMarks(api.MaxMarks, 5), []api.Dot{dot(0, api.MaxLife, 2)}, api.MaxMarks, 1)
	whole("the most dots", nil, manyDots(api.MaxCloud, 0, 1), 0, api.MaxCloud)
	long("a dot too many", nil, manyDots(api.MaxCloud+1, 0, 1))
	whole("one of too many is known", []api.Mark{mark(0, 1, 2)}, manyDots(api.MaxCloud+1, 0, 1), 1, api.MaxCloud)
	whole("all of very many are known", []api.Mark{mark(0, 1, 1<<20)}, manyDots(1<<16, 0, 1), 1, 0)
	whole("very many without a gap", nil, upToOf(actor(0, 1), 1<<16), 1, 0)
	whole("very many above a gap, and what fills it", nil, append(upToOf(actor(0, 1), 1<<10)[1:], dot(0, 1, 1)), 1, 0)
	long("very many above a gap", nil, upToOf(actor(0, 1), 1<<10)[1:])
	long("very many marks", manyMarks(1<<16, 1), nil)
	long("very many dots", nil, manyDots(1<<16, 0, 1))
	whole("both at their limits", fullest().Marks, fullest().Cloud, api.MaxMarks, api.MaxCloud)
}

func TestP3_1Memory(t *testing.T) {
	ms := append(make([]api.Mark, 0, 9), mark(1, 1, 4), mark(0, 1, 2))
	ds := append(make([]api.Dot, 0, 9), dot(1, 1, 9), dot(0, 1, 7))
	wasMarks, wasDots := slices.Clone(ms[:9]), slices.Clone(ds[:9])
	c, e := causal.Normal(ms, ds)
	ok(t, "Normal", e)
	if !slices.Equal(ms[:9], wasMarks) || !slices.Equal(ds[:9], wasDots) {
		t.Error("Normal changes what is handed in")
	}
	spoil(c)
	if !slices.Equal(ms[:9], wasMarks) || !slices.Equal(ds[:9], wasDots) {
		t.Error("Normal answers what is handed in")
	}
	if !causal.Can(marks(mark(0, 1, 2))) {
		t.Error("Can")
	}
}

// spoil writes into all of a context's memory, the room behind its lists' ends included.
func spoil(c api.Context) {
	ms, ds := c.Marks[:cap(c.Marks)], c.Cloud[:cap(c.Cloud)]
	for i := range ms {
		ms[i] = mark(-7, -7, -7)
	}
	for i := range ds {
		if ds[i] == dot(-7, -7, -7) {
			panic("both lists share their memory")
		}
		ds[i] = dot(-7, -7, -7)
	}
}
