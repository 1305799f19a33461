package causal_test

import (
	"cmp"
	"encoding/binary"
	"maps"
	"math"
	"slices"
	"testing"

	"trolley/api"
	"trolley/causal"
)

// set is a set of dots, one by one: what a context stands for.
type set map[api.Dot]bool

func setOf(dots ...api.Dot) set {
	s := set{}
	for _, d := range dots {
		s[d] = true
	}
	return s
}

// dotsOf are a context's dots; its marks must be short.
func dotsOf(c api.Context) set {
	s := setOf(c.Cloud...)
	for _, m := range c.Marks {
		for count := 1; count <= m.Count; count++ {
			s[api.Dot{Node: m.Node, Life: m.Life, Count: count}] = true
		}
	}
	return s
}

func union(a, b set) set {
	u := maps.Clone(a)
	maps.Copy(u, b)
	return u
}

func within(a, b set) bool {
	for d := range a {
		if !b[d] {
			return false
		}
	}
	return true
}

func byDot(a, b api.Dot) int {
	return cmp.Or(cmp.Compare(a.Node, b.Node), cmp.Compare(a.Life, b.Life), cmp.Compare(a.Count, b.Count))
}

// contextOf is a set's context, made without the package.
func contextOf(s set) api.Context {
	var c api.Context
	for _, d := range slices.SortedFunc(maps.Keys(s), byDot) {
		below := d.Count - 1
		last := len(c.Marks) - 1
		switch {
		case below == 0:
			c.Marks = append(c.Marks, api.Mark(d))
		case last >= 0 && c.Marks[last] == api.Mark{Node: d.Node, Life: d.Life, Count: below}:
			c.Marks[last].Count++
		default:
			c.Cloud = append(c.Cloud, d)
		}
	}
	return c
}

func same(a, b api.Context) bool {
	return slices.Equal(a.Marks, b.Marks) && slices.Equal(a.Cloud, b.Cloud)
}

func isEmpty(c api.Context) bool { return same(c, api.Context{}) }

func dot(node, life, count int) api.Dot { return api.Dot{Node: node, Life: life, Count: count} }

func mark(node, life, count int) api.Mark { return api.Mark{Node: node, Life: life, Count: count} }

func actor(node, life int) api.Actor { return api.Actor{Node: node, Life: life} }

func marks(m ...api.Mark) api.Context { return api.Context{Marks: m} }

func cloud(d ...api.Dot) api.Context { return api.Context{Cloud: d} }

// manyMarks are marks of so many actors, each up to a count.
func manyMarks(n, count int) []api.Mark {
	var l []api.Mark
	for i := range n {
		l = append(l, mark(i*api.MaxNodes/max(n, 1), i+1, count))
	}
	return l
}

// manyDots are so many dots of an actor, with gaps below and between.
func manyDots(n, node, life int) []api.Dot {
	var l []api.Dot
	for i := range n {
		l = append(l, dot(node, life, 3+2*i))
	}
	return l
}

// fullest is a context at all limits.
func fullest() api.Context {
	return api.Context{Marks: manyMarks(api.MaxMarks, 1), Cloud: manyDots(api.MaxCloud, 0, 1)}
}

// subsets are all sets of some dots.
func subsets(of []api.Dot) []set {
	var l []set
	for bits := range 1 << len(of) {
		s := set{}
		for i, d := range of {
			if bits>>i&1 == 1 {
				s[d] = true
			}
		}
		l = append(l, s)
	}
	return l
}

// upToOf are an actor's dots from 1 to a count.
func upToOf(a api.Actor, count int) []api.Dot {
	var l []api.Dot
	for n := 1; n <= count; n++ {
		l = append(l, dot(a.Node, a.Life, n))
	}
	return l
}

// codeOf is a context's code, made without the package, whether it may be or not.
func codeOf(c api.Context) []byte {
	b := binary.AppendUvarint(nil, uint64(len(c.Marks)))
	for _, m := range c.Marks {
		b = codeOfDot(b, api.Dot(m))
	}
	b = binary.AppendUvarint(b, uint64(len(c.Cloud)))
	for _, d := range c.Cloud {
		b = codeOfDot(b, d)
	}
	return b
}

func codeOfDot(b []byte, d api.Dot) []byte {
	for _, n := range []int{d.Node, d.Life, d.Count} {
		b = binary.AppendUvarint(b, uint64(n))
	}
	return b
}

// rightDots may be, at each limit.
func rightDots() []api.Dot {
	return []api.Dot{
		dot(0, 1, 1), dot(api.MaxNodes-1, 1, 1), dot(0, api.MaxLife, 1), dot(0, 1, api.MaxCount),
		dot(api.MaxNodes-1, api.MaxLife, api.MaxCount), dot(3, 1<<20, 2),
	}
}

// wrongDots may not be, one beyond each limit and far beyond it.
func wrongDots() []api.Dot {
	return []api.Dot{
		{}, dot(-1, 1, 1), dot(api.MaxNodes, 1, 1), dot(math.MinInt, 1, 1), dot(math.MaxInt, 1, 1),
		dot(0, 0, 1), dot(0, -1, 1), dot(0, api.MaxLife+1, 1), dot(0, math.MinInt, 1), dot(0, math.MaxInt, 1),
		dot(0, 1, 0), dot(0, 1, -1), dot(0, 1, api.MaxCount+1), dot(0, 1, math.MinInt), dot(0, 1, math.MaxInt),
		dot(-1, -1, -1), dot(math.MaxInt, math.MaxInt, math.MaxInt), dot(math.MinInt, math.MinInt, math.MinInt),
	}
}

// rightContexts are in their one form.
func rightContexts() []api.Context {
	l := []api.Context{
		{}, {Marks: []api.Mark{}, Cloud: []api.Dot{}},
		marks(mark(0, 1, 1), mark(0, 2, 5), mark(1, 1, 7)),
		cloud(dot(0, 1, 2)), cloud(dot(0, 1, 2), dot(0, 1, 3), dot(0, 2, 2), dot(1, 1, 9)),
		{Marks: []api.Mark{mark(1, 2, 4)}, Cloud: []api.Dot{dot(0, 3, 2), dot(1, 1, 4), dot(1, 2, 6), dot(1, 3, 2)}},
		{Marks: []api.Mark{mark(0, 1, api.MaxCount-2)}, Cloud: []api.Dot{dot(0, 1, api.MaxCount)}},
		marks(mark(0, 1, api.MaxCount-1)), cloud(dot(7, api.MaxLife, api.MaxCount)),
		marks(manyMarks(api.MaxMarks, api.MaxCount)...), cloud(manyDots(api.MaxCloud, 7, 1)...), fullest(),
	}
	for _, d := range rightDots() {
		l = append(l, marks(api.Mark(d)))
	}
	return l
}

// wrongContexts are not in their one form, each for a reason of its own.
func wrongContexts() map[string]api.Context {
	l := map[string]api.Context{
		"nodes fall":               marks(mark(1, 1, 1), mark(0, 1, 1)),
		"nodes fall, lives rise":   marks(mark(1, 1, 1), mark(0, 2, 2)),
		"lives fall":               marks(mark(0, 2, 1), mark(0, 1, 1)),
		"an actor twice":           marks(mark(0, 1, 1), mark(0, 1, 2)),
		"a mark twice":             marks(mark(0, 1, 1), mark(0, 1, 1)),
		"a later mark falls":       marks(mark(0, 1, 1), mark(2, 1, 1), mark(1, 1, 1)),
		"the cloud's nodes fall":   cloud(dot(1, 1, 2), dot(0, 1, 3)),
		"the cloud's lives fall":   cloud(dot(0, 2, 2), dot(0, 1, 3)),
		"the cloud's counts fall":  cloud(dot(0, 1, 3), dot(0, 1, 2)),
		"a dot twice":              cloud(dot(0, 1, 2), dot(0, 1, 2)),
		"the dot 1 without a mark": cloud(dot(0, 1, 1)),
		"the dot 1 of another":     {Marks: []api.Mark{mark(0, 1, 1)}, Cloud: []api.Dot{dot(0, 2, 1)}},
		"below its mark":           {Marks: []api.Mark{mark(0, 1, 3)}, Cloud: []api.Dot{dot(0, 1, 2)}},
		"at its mark":              {Marks: []api.Mark{mark(0, 1, 3)}, Cloud: []api.Dot{dot(0, 1, 3)}},
		"just above its mark":      {Marks: []api.Mark{mark(0, 1, 3)}, Cloud: []api.Dot{dot(0, 1, 4)}},
		"just above a later mark":  {Marks: []api.Mark{mark(0, 1, 3), mark(1, 1, 8)}, Cloud: []api.Dot{dot(0, 1, 5), dot(1, 1, 9)}},
		"the greatest above":       {Marks: []api.Mark{mark(0, 1, api.MaxCount-1)}, Cloud: []api.Dot{dot(0, 1, api.MaxCount)}},
		"a mark too many":          marks(manyMarks(api.MaxMarks+1, 1)...),
		"a dot too many":           cloud(manyDots(api.MaxCloud+1, 0, 1)...),
		"very many marks":          marks(manyMarks(1<<17, math.MaxInt)...),
		"very many dots":           cloud(manyDots(1<<17, 0, 1)...),
		"huge marks":               marks(slices.Repeat([]api.Mark{mark(0, 1, math.MaxInt)}, 9)...),
	}
	for i, d := range wrongDots() {
		l["a wrong mark "+string(rune('a'+i))] = marks(api.Mark(d))
		l["a wrong dot "+string(rune('a'+i))] = cloud(d)
		l["a wrong mark behind "+string(rune('a'+i))] = marks(mark(0, 1, 1), api.Mark(d))
	}
	return l
}

func ok(t *testing.T, what string, e api.Errno) {
	t.Helper()
	if e != api.OK {
		t.Fatalf("%s: %v", what, e)
	}
}

// normal is a set's context, which Normal must be able to tell.
func normal(t *testing.T, s set) api.Context {
	t.Helper()
	c, e := causal.Normal(nil, slices.Collect(maps.Keys(s)))
	ok(t, "Normal", e)
	return c
}

// dice are numbers that look thrown, the same ones each time.
type dice struct{ x uint64 }

func (g *dice) below(n int) int {
	g.x = g.x*6364136223846793005 + 1442695040888963407
	return int(g.x >> 33 % uint64(n))
}

func (g *dice) dot() api.Dot { return dot(g.below(3), 1+g.below(2), 1+g.below(7)) }

func (g *dice) dots(most int) []api.Dot {
	var l []api.Dot
	for range g.below(most + 1) {
		l = append(l, g.dot())
	}
	return l
}

func (g *dice) marks(most int) []api.Mark {
	var l []api.Mark
	for _, d := range g.dots(most) {
		l = append(l, api.Mark(d))
	}
	return l
}

func (g *dice) context() api.Context {
	return contextOf(union(dotsOf(api.Context{Marks: g.marks(3)}), setOf(g.dots(12)...)))
}
