package merkle_test

import (
	"math"
	"slices"
	"strings"
	"testing"

	"trolley/api"
	"trolley/ident"
	"trolley/merkle"
)

func TestP8_1Place(t *testing.T) {
	for _, key := range append(rightKeys(), wrongKeys()...) {
		if p := merkle.Place(key); p != placeOf(key) || p != int(ident.Position(key)%16) {
			t.Errorf("Place(%q) = %d, want %d", key, p, placeOf(key))
		}
	}
	for key, place := range map[string]int{"": 6, "a": 11, "b": 0, "cart-1": 2, "\x00": 11} { // of hashes that were worked out elsewhere
		if p := merkle.Place(key); p != place {
			t.Errorf("Place(%q) = %d, want %d", key, p, place)
		}
	}
	for place := range 16 {
		for _, key := range keysIn(place, 5) {
			if p := merkle.Place(key); p != place {
				t.Errorf("Place(%q) = %d, want %d", key, p, place)
			}
		}
	}
}

func TestP8_2Hashes(t *testing.T) {
	has(t, merkle.New(), pairs{})
	for _, m := range []pairs{
		{"a": 1}, {"a": 0}, {"a": math.MaxUint64}, {"b": 1}, {"a": 1, "b": 1}, {"a": 1, "b": 2}, {"a": 2, "b": 1},
	} {
		has(t, m.tree(), m)
	}
	m := pairs{}
	for place := range 16 {
		for i, key := range keysIn(place, place%4+1) {
			m[key] = uint64(i * place)
		}
		has(t, m.tree(), m)
	}
	g := &dice{x: 82}
	for range 300 {
		m := g.pairs(90)
		has(t, m.tree(), m)
	}
}

// The hash of one key, worked out step by step.
func TestP8_2OneKey(t *testing.T) {
	tree := merkle.New()
	ok(t, "Set", tree.Set("a", 7))
	leaf := ident.Mix(0, ident.Mix(ident.Hash([]byte("a")), 7))
	third := ident.Mix(0, leaf)   // a lies in leaf 11: to the right of 10
	second := ident.Mix(0, third) // below 5, to the right of 4
	first := ident.Mix(second, 0) // below 2, to the left of 3
	if root := ident.Mix(0, first); tree.Root() != root {
		t.Errorf("Root() = %x, want %x", tree.Root(), root)
	}
	for level, hash := range []uint64{ident.Mix(0, first), first, second, third, leaf} {
		sums, e := tree.Sums(level, []int{11 >> (4 - level)})
		if e != api.OK || len(sums) != 1 || sums[0].Hash != hash {
			t.Errorf("level %d: %v, %v, want %x", level, sums, e, hash)
		}
	}
}

func TestP8_3New(t *testing.T) {
	a, b := merkle.New(), merkle.New()
	if a == nil || b == nil || a == b {
		t.Fatal("New makes no tree of its own")
	}
	ok(t, "Set", a.Set("a", 1))
	has(t, a, pairs{"a": 1})
	has(t, b, pairs{})
}

func TestP8_3Of(t *testing.T) {
	for _, l := range [][]api.Sum{nil, {}, {{Place: 3}}, {{Key: "a b", Hash: 1}}} {
		has(t, merkle.Of(l), pairs{})
	}
	l := []api.Sum{{Place: -7, Key: "a", Hash: 1}, {Place: math.MaxInt, Key: "b", Hash: 2}, {Key: "a", Hash: 3}, {Key: "c"}, {Key: "b", Hash: 2}}
	for _, key := range wrongKeys() {
		l = append(l, api.Sum{Key: key, Hash: 9})
	}
	l = append(l, api.Sum{Key: "d", Hash: 4})
	tree := merkle.Of(l)
	has(t, tree, pairs{"a": 3, "b": 2, "c": 0, "d": 4})
	ok(t, "Drop", tree.Drop("a"))
	has(t, tree, pairs{"b": 2, "c": 0, "d": 4})
	for _, key := range rightKeys() {
		has(t, merkle.Of([]api.Sum{{Key: key, Hash: 5}}), pairs{key: 5})
	}
}

func TestP8_3SetAndDrop(t *testing.T) {
	tree, m := merkle.New(), pairs{}
	for i, key := range append(rightKeys(), rightKeys()...) {
		ok(t, "Set", tree.Set(key, uint64(i)))
		m[key] = uint64(i)
		has(t, tree, m)
	}
	ok(t, "Set of the same", tree.Set("a", m["a"]))
	has(t, tree, m)
	for _, key := range rightKeys() {
		ok(t, "Drop", tree.Drop(key))
		delete(m, key)
		has(t, tree, m)
		want(t, "Drop once more", tree.Drop(key), api.ErrKey)
		has(t, tree, m)
	}
	has(t, tree, pairs{})
}

func TestP8_3WrongKeys(t *testing.T) {
	m := pairs{"a": 1, "cart-1": 2}
	tree := m.tree()
	for _, key := range wrongKeys() {
		want(t, "Set", tree.Set(key, 3), api.ErrName)
		want(t, "Drop", tree.Drop(key), api.ErrName)
		has(t, tree, m)
	}
	for _, key := range []string{"b", "A", "a.", "cart-2", strings.Repeat("a", 32)} {
		want(t, "Drop", tree.Drop(key), api.ErrKey)
		has(t, tree, m)
	}
}

func TestP8_4Sums(t *testing.T) {
	m := pairs{"a": 1, "b": 2, "c": 3}
	tree := m.tree()
	for level := range 5 {
		last := 1<<level - 1
		for _, places := range [][]int{nil, {}, {0}, {last}, {last, 0, last, last}, slices.Repeat([]int{0}, 1000)} {
			var wanted []api.Sum
			for _, p := range places {
				wanted = append(wanted, api.Sum{Place: p, Hash: m.hash(level, p)})
			}
			if got, e := tree.Sums(level, places); e != api.OK || !slices.Equal(got, wanted) {
				t.Errorf("Sums(%d, %v) = %v, %v", level, places, got, e)
			}
		}
		for _, places := range wrongPlaces(level) {
			if got, e := tree.Sums(level, places); e != api.ErrPlace || got != nil {
				t.Errorf("Sums(%d, %v) = %v, %v", level, places, got, e)
			}
		}
	}
	for _, level := range wrongLevels(4) {
		for _, places := range [][]int{nil, {}, {0}, {-1}} {
			if got, e := tree.Sums(level, places); e != api.ErrPlace || got != nil {
				t.Errorf("Sums(%d, %v) = %v, %v", level, places, got, e)
			}
		}
	}
}

func TestP8_4Keys(t *testing.T) {
	m := pairs{}
	for _, place := range []int{0, 3, 11, 15} {
		for i, key := range keysIn(place, place+1) {
			m[key] = uint64(i)
		}
	}
	tree := m.tree()
	for _, places := range [][]int{nil, {}, {0}, {1}, {15}, {3}, {15, 3, 0}, {3, 3, 1, 3}, upTo(16)} {
		if got, e := tree.Keys(places); e != api.OK || !slices.Equal(got, m.at(places...)) {
			t.Errorf("Keys(%v) = %v, %v", places, got, e)
		}
	}
	for _, places := range wrongPlaces(4) {
		if got, e := tree.Keys(places); e != api.ErrPlace || got != nil {
			t.Errorf("Keys(%v) = %v, %v", places, got, e)
		}
	}
}

func TestP8_7NoTree(t *testing.T) {
	for name, tree := range map[string]*merkle.Tree{"nil": nil, "plain": {}, "new": new(merkle.Tree)} {
		if tree.Root() != 0 {
			t.Errorf("%s: Root() = %x", name, tree.Root())
		}
		for _, key := range []string{"a", ""} {
			want(t, name+": Set", tree.Set(key, 1), api.ErrNil)
			want(t, name+": Drop", tree.Drop(key), api.ErrNil)
		}
		for _, place := range []int{0, -1} {
			for _, level := range []int{0, 4, 5, -1} {
				sums, e := tree.Sums(level, []int{place})
				unlike, f := tree.Unlike(level, sumsAt(place))
				if sums != nil || e != api.ErrNil || unlike != nil || f != api.ErrNil {
					t.Errorf("%s: %v, %v, %v, %v", name, sums, e, unlike, f)
				}
			}
			keys, e := tree.Keys([]int{place})
			missed, f := tree.Missed([]int{place}, []api.Sum{{}})
			if keys != nil || e != api.ErrNil || missed != nil || f != api.ErrNil {
				t.Errorf("%s: %v, %v, %v, %v", name, keys, e, missed, f)
			}
		}
	}
}
