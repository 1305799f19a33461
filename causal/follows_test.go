package causal_test

import (
	"bytes"
	"slices"
	"testing"

	"trolley/api"
	"trolley/causal"
	"trolley/wire"
)

// some are contexts of a few dots, every set of them.
func some() []api.Context {
	var l []api.Context
	for _, s := range subsets(append(upToOf(actor(0, 1), 3), upToOf(actor(1, 1), 2)...)) {
		l = append(l, contextOf(s))
	}
	return l
}

// joined is the join where there is one.
func joined(t *testing.T, a, b api.Context) (api.Context, bool) {
	t.Helper()
	c, e := causal.Join(a, b)
	if e != api.OK && e != api.ErrLong {
		t.Fatalf("Join(%v, %v): %v", a, b, e)
	}
	if e == api.OK && !causal.Can(c) {
		t.Fatalf("Join(%v, %v): %v can't be", a, b, c)
	}
	return c, e == api.OK
}

func TestP3_4OneForm(t *testing.T) {
	of := map[string]api.Context{}
	for _, c := range append(some(), rightContexts()...) {
		code, e := causal.Encode(nil, c)
		ok(t, "Encode", e)
		if d, there := of[string(code)]; there && !same(c, d) {
			t.Errorf("%v and %v have one code", c, d)
		}
		of[string(code)] = c
	}
	g := &dice{x: 34}
	for range 5000 {
		c := g.context()
		d, e := causal.Normal(c.Marks, slices.Concat(c.Cloud, g.dots(3)))
		ok(t, "Normal", e)
		if !causal.Can(c) || !causal.Can(d) {
			t.Fatalf("%v or %v can't be", c, d)
		}
		if alike := causal.Leq(c, d) && causal.Leq(d, c); alike != same(c, d) {
			t.Fatalf("%v and %v, with the same dots: %v", c, d, alike)
		}
	}
}

func TestP3_5ALattice(t *testing.T) {
	all := some()
	for _, a := range all {
		if j, _ := joined(t, a, a); !same(j, a) {
			t.Fatalf("Join of %v with itself: %v", a, j)
		}
		for _, b := range all {
			ab, _ := joined(t, a, b)
			if ba, _ := joined(t, b, a); !same(ab, ba) {
				t.Fatalf("%v and %v: %v, %v", a, b, ab, ba)
			}
			if causal.Leq(a, b) != same(ab, b) {
				t.Fatalf("Leq(%v, %v) is %v, their join %v", a, b, causal.Leq(a, b), ab)
			}
			for _, c := range all {
				bc, _ := joined(t, b, c)
				left, _ := joined(t, ab, c)
				if right, _ := joined(t, a, bc); !same(left, right) {
					t.Fatalf("%v, %v, %v: %v, %v", a, b, c, left, right)
				}
			}
		}
	}
}

// great is a context with so many dots that a join of two is often too long.
func (g *dice) great() api.Context {
	ms := manyMarks(g.below(45), 1+g.below(3))
	for i := range ms {
		ms[i].Life += g.below(2) * 100
	}
	var ds []api.Dot
	for range g.below(45) {
		ds = append(ds, dot(g.below(8), 300, 2+g.below(40)))
	}
	return contextOf(union(setOf(ds...), dotsOf(api.Context{Marks: ms})))
}

func TestP3_5ALatticeAtTheLimits(t *testing.T) {
	g := &dice{x: 35}
	whole, long := 0, 0
	for range 3000 {
		a, b, c := g.great(), g.great(), g.great()
		ab, e := joined(t, a, b)
		ba, f := joined(t, b, a)
		if e != f || !same(ab, ba) {
			t.Fatalf("%v and %v: %v, %v", a, b, ab, ba)
		}
		if causal.Leq(a, b) != (e && same(ab, b)) {
			t.Fatalf("Leq(%v, %v)", a, b)
		}
		if !e {
			long++
			continue
		}
		if !causal.Leq(a, ab) || !causal.Leq(b, ab) {
			t.Fatalf("%v or %v is not at most %v", a, b, ab)
		}
		bc, f := joined(t, b, c)
		left, m := joined(t, ab, c)
		right, n := joined(t, a, bc)
		if f && m && n {
			whole++
			if !same(left, right) {
				t.Fatalf("%v, %v, %v: %v, %v", a, b, c, left, right)
			}
		}
	}
	if whole < 100 || long < 100 {
		t.Errorf("%d were joined, %d too long", whole, long)
	}
}

func TestP3_6ThereAndBack(t *testing.T) {
	g := &dice{x: 36}
	all := append(some(), rightContexts()...)
	for range 1000 {
		all = append(all, g.context(), g.great())
	}
	for _, c := range all {
		if !causal.Can(c) {
			continue
		}
		code, e := causal.Encode(nil, c)
		ok(t, "Encode", e)
		r := wire.Over(append(slices.Clone(code), 0, 0))
		d, e := causal.Decode(r)
		if e != api.OK || !same(d, c) || r.Left() != 2 {
			t.Fatalf("%v: %v, %v, %d are left", c, d, e, r.Left())
		}
	}
}

// Bytes with changes here and there: what is read of them is written so.
func TestP3_6OneCode(t *testing.T) {
	g := &dice{x: 37}
	read, not := 0, 0
	for range 60000 {
		b := codeOf(g.context())
		for range 1 + g.below(3) {
			b[g.below(len(b))] = []byte{0, 1, 2, 3, 5, 0x7f, 0x80, 0x81, 0xff}[g.below(9)]
		}
		r := wire.Over(b)
		c, e := causal.Decode(r)
		if e != api.OK {
			not++
			if r.At() != 0 {
				t.Fatalf("%x: %v, at %d", b, e, r.At())
			}
			continue
		}
		read++
		code, e := causal.Encode(nil, c)
		if e != api.OK || !bytes.Equal(code, b[:r.At()]) {
			t.Fatalf("%x is read as %v, which is %x", b, c, code)
		}
	}
	if read < 1000 || not < 1000 {
		t.Errorf("%d were read, %d not", read, not)
	}
}

func TestP3_7Pruned(t *testing.T) {
	g := &dice{x: 38}
	for range 2000 {
		c := g.context()
		a := actor(g.below(3), 1+g.below(2))
		p := causal.Prune(c, a)
		if !causal.Can(p) || causal.Top(p, a) != 0 {
			t.Fatalf("Prune(%v, %v): %v", c, a, p)
		}
		for node := range 3 {
			for life := 1; life <= 2; life++ {
				for count := 1; count <= 9; count++ {
					d := dot(node, life, count)
					if causal.Covers(p, d) != (causal.Covers(c, d) && actor(node, life) != a) {
						t.Fatalf("Prune(%v, %v) covers %v: %v", c, a, d, causal.Covers(p, d))
					}
				}
			}
		}
	}
}

func TestExamplesOfTheDocument(t *testing.T) {
	d := func(count int) api.Dot { return dot(1, 1, count) }
	c, _ := causal.Normal(nil, []api.Dot{d(1), d(3), d(2)})
	if !same(c, marks(mark(1, 1, 3))) {
		t.Error(c)
	}
	c, _ = causal.Normal(nil, []api.Dot{d(1), d(3)})
	if !same(c, api.Context{Marks: []api.Mark{mark(1, 1, 1)}, Cloud: []api.Dot{d(3)}}) {
		t.Error(c)
	}
	c, _ = causal.Normal(nil, []api.Dot{d(2)})
	if !same(c, cloud(d(2))) {
		t.Error(c)
	}
	c, _ = causal.Add(c, d(1))
	if !same(c, marks(mark(1, 1, 2))) {
		t.Error(c)
	}
	c, _ = causal.Join(api.Context{Marks: []api.Mark{mark(1, 1, 2)}, Cloud: []api.Dot{d(4)}}, marks(mark(1, 1, 3)))
	if !same(c, marks(mark(1, 1, 4))) {
		t.Error(c)
	}
}
