package merkle_test

import (
	"maps"
	"slices"
	"strconv"
	"testing"

	"trolley/api"
	"trolley/merkle"
)

// turn sets or drops a thrown key, in a tree and in what it is to have.
func (g *dice) turn(t *testing.T, tree *merkle.Tree, m pairs) string {
	t.Helper()
	key := g.key()
	_, there := m[key]
	switch {
	case g.below(3) > 0:
		hash := g.hash()
		ok(t, "Set", tree.Set(key, hash))
		m[key] = hash
	case there:
		ok(t, "Drop", tree.Drop(key))
		delete(m, key)
	default:
		want(t, "Drop", tree.Drop(key), api.ErrKey)
	}
	return key
}

func TestP8_8TheOrderPlaysNoPart(t *testing.T) {
	g := &dice{x: 88}
	for range 100 {
		tree, m := merkle.New(), pairs{}
		for range 60 {
			g.turn(t, tree, m)
		}
		has(t, tree, m)
		back := merkle.New()
		var l []api.Sum
		for _, key := range slices.Backward(m.keys()) {
			ok(t, "Set", back.Set(key, m[key]))
			l = append(l, api.Sum{Key: key, Hash: 5}, api.Sum{Key: "other." + key})
		}
		for _, key := range m.keys() {
			l = append(l, api.Sum{Key: key, Hash: m[key]})
		}
		of := merkle.Of(l)
		for _, key := range m.keys() {
			ok(t, "Drop", of.Drop("other."+key))
		}
		has(t, back, m)
		has(t, of, m)
	}
}

func TestP8_9JustTheWayUp(t *testing.T) {
	g := &dice{x: 89}
	tree, m := merkle.New(), pairs{}
	turned := 0
	for range 3000 {
		was := maps.Clone(m)
		sums := [5][]api.Sum{}
		for level := range 5 {
			sums[level], _ = tree.Sums(level, upTo(1<<level))
		}
		key := g.turn(t, tree, m)
		for level := range 5 {
			unlike, e := tree.Unlike(level, sums[level])
			ok(t, "Unlike", e)
			var wanted []int
			if !maps.Equal(m, was) {
				wanted = []int{placeOf(key) >> (4 - level)}
				turned++
			}
			if !slices.Equal(unlike, wanted) {
				t.Fatalf("%s is turned in %v: at level %d %v are other ones", key, was, level, unlike)
			}
		}
	}
	if turned < 5000 {
		t.Errorf("only %d hashes are other ones", turned)
	}
}

// found goes down from the root, and asks of the leaves.
func found(t *testing.T, a, b *merkle.Tree) []string {
	t.Helper()
	places := []int{0}
	for level := range 5 {
		sums, e := b.Sums(level, places)
		ok(t, "Sums", e)
		places, e = a.Unlike(level, sums)
		ok(t, "Unlike", e)
		if level < 4 {
			places, e = merkle.Below(level, places)
			ok(t, "Below", e)
		}
	}
	keys, e := b.Keys(places)
	ok(t, "Keys", e)
	missed, e := a.Missed(places, keys)
	ok(t, "Missed", e)
	return missed
}

func TestP8_10Found(t *testing.T) {
	g := &dice{x: 810}
	all := 0
	for range 1000 {
		a := g.pairs(60)
		b := maps.Clone(a)
		for range g.below(9) {
			switch key := g.key(); g.below(3) {
			case 0:
				delete(b, key)
			case 1:
				b[key] = g.hash()
			case 2:
				b["new-"+strconv.Itoa(g.below(100))] = g.hash()
			}
		}
		var wanted []string
		for key, hash := range a {
			if other, there := b[key]; !there || other != hash {
				wanted = append(wanted, key)
			}
		}
		for key := range b {
			if _, there := a[key]; !there {
				wanted = append(wanted, key)
			}
		}
		slices.Sort(wanted)
		x, y := found(t, a.tree(), b.tree()), found(t, b.tree(), a.tree())
		if !slices.Equal(x, wanted) || !slices.Equal(y, wanted) {
			t.Fatalf("%v and %v: %v and %v, want %v", a, b, x, y, wanted)
		}
		all += len(wanted)
	}
	if all < 2000 {
		t.Errorf("only %d keys are unlike", all)
	}
}

func TestP8_11TakenBack(t *testing.T) {
	g := &dice{x: 811}
	for range 300 {
		m := g.pairs(40)
		tree := m.tree()
		for range 5 {
			key := g.key()
			if _, there := m[key]; there {
				continue
			}
			root := tree.Root()
			ok(t, "Set", tree.Set(key, g.hash()))
			if tree.Root() == root {
				t.Fatalf("Set of %s changes nothing", key)
			}
			ok(t, "Drop", tree.Drop(key))
			has(t, tree, m)
		}
	}
}

// Two trees know nothing of one another.
func TestTwoTrees(t *testing.T) {
	a := pairs{"a": 1}.tree()
	b := merkle.Of([]api.Sum{{Key: "a", Hash: 1}})
	ok(t, "Set", b.Set("b", 2))
	ok(t, "Drop", b.Drop("a"))
	has(t, a, pairs{"a": 1})
	has(t, b, pairs{"b": 2})
}
