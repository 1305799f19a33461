package merkle_test

import (
	"encoding/binary"
	"hash/fnv"
	"maps"
	"math"
	"slices"
	"strconv"
	"strings"
	"testing"

	"trolley/api"
	"trolley/merkle"
)

// hashOf, mixOf and placeOf are as the document says them, made without the program.
func hashOf(s string) uint64 {
	f := fnv.New64a()
	f.Write([]byte(s))
	h := f.Sum64()
	h ^= h >> 33
	h *= 0xff51afd7ed558ccd
	h ^= h >> 33
	h *= 0xc4ceb9fe1a85ec53
	h ^= h >> 33
	return h
}

func mixOf(a, b uint64) uint64 {
	return hashOf(string(binary.BigEndian.AppendUint64(binary.BigEndian.AppendUint64(nil, a), b)))
}

func placeOf(key string) int { return int(hashOf(key) & 15) }

// pairs are keys with their hashes.
type pairs map[string]uint64

func (m pairs) keys() []string { return slices.Sorted(maps.Keys(m)) }

func (m pairs) tree() *merkle.Tree {
	t := merkle.New()
	for key, hash := range m {
		t.Set(key, hash)
	}
	return t
}

// hash is a place's, asked from above.
func (m pairs) hash(level, place int) uint64 {
	if level < 4 {
		left, right := m.hash(level+1, 2*place), m.hash(level+1, 2*place+1)
		if left == 0 && right == 0 {
			return 0
		}
		return mixOf(left, right)
	}
	h := uint64(0)
	for _, key := range m.keys() {
		if placeOf(key) == place {
			h = mixOf(h, mixOf(hashOf(key), m[key]))
		}
	}
	return h
}

// at is the keys of some leaves, as Keys tells them.
func (m pairs) at(places ...int) []api.Sum {
	var l []api.Sum
	for _, p := range places {
		for _, key := range m.keys() {
			if placeOf(key) == p {
				l = append(l, api.Sum{Place: p, Key: key, Hash: m[key]})
			}
		}
	}
	return l
}

func upTo(n int) []int {
	var l []int
	for i := range n {
		l = append(l, i)
	}
	return l
}

// has tells what a tree is to tell, at all levels.
func has(t *testing.T, tree *merkle.Tree, m pairs) {
	t.Helper()
	if tree.Root() != m.hash(0, 0) {
		t.Fatalf("Root() = %x, want %x of %v", tree.Root(), m.hash(0, 0), m)
	}
	for level := range 5 {
		var want []api.Sum
		for p := range 1 << level {
			want = append(want, api.Sum{Place: p, Hash: m.hash(level, p)})
		}
		if got, e := tree.Sums(level, upTo(1<<level)); e != api.OK || !slices.Equal(got, want) {
			t.Fatalf("Sums(%d, ..) = %x, %v, want %x of %v", level, got, e, want, m)
		}
	}
	if got, e := tree.Keys(upTo(16)); e != api.OK || !slices.Equal(got, m.at(upTo(16)...)) {
		t.Fatalf("Keys(..) = %v, %v, want %v", got, e, m.at(upTo(16)...))
	}
}

func ok(t *testing.T, what string, e api.Errno) {
	t.Helper()
	if e != api.OK {
		t.Fatalf("%s: %v", what, e)
	}
}

func want(t *testing.T, what string, e, want api.Errno) {
	t.Helper()
	if e != want {
		t.Errorf("%s: %v, want %v", what, e, want)
	}
}

func wrongKeys() []string {
	keys := []string{"", strings.Repeat("k", 33), strings.Repeat("k", 1<<16), "a b", "é", "\x80", "a\x00", " ", "a\n"}
	for _, c := range "/:@[^`{,+" {
		keys = append(keys, string(c))
	}
	return keys
}

func rightKeys() []string {
	return []string{strings.Repeat("k", 32), "a", "b", "Z", "0", ".", "..", "-", "_", "cart-1", "A-Z_0.9"}
}

// wrongPlaces are lists with something that is no place of a level.
func wrongPlaces(level int) [][]int {
	var l [][]int
	for _, p := range []int{-1, math.MinInt, 1 << level, 1<<level + 1, 1 << 32, math.MaxInt} {
		l = append(l, []int{p}, []int{0, p}, []int{p, 0}, []int{0, 0, p, 0})
	}
	return l
}

// wrongLevels are below the first one, or above the last.
func wrongLevels(last int) []int {
	return []int{-1, math.MinInt, last + 1, last + 2, 63, 64, 1 << 32, math.MaxInt}
}

func sumsAt(places ...int) []api.Sum {
	var l []api.Sum
	for _, p := range places {
		l = append(l, api.Sum{Place: p})
	}
	return l
}

// keysIn are so many keys of one leaf.
func keysIn(place, n int) []string {
	var l []string
	for i := 0; len(l) < n; i++ {
		if key := "in" + strconv.Itoa(i); placeOf(key) == place {
			l = append(l, key)
		}
	}
	return l
}

// dice are numbers that look thrown, the same ones each time.
type dice struct{ x uint64 }

func (g *dice) below(n int) int {
	g.x = g.x*6364136223846793005 + 1442695040888963407
	return int(g.x >> 33 % uint64(n))
}

func (g *dice) key() string { return "cart-" + strconv.Itoa(g.below(60)) }

// hash is one of a few, 0 among them.
func (g *dice) hash() uint64 {
	return [...]uint64{0, 1, 2, math.MaxUint64, 1 << 63}[g.below(5)]
}

func (g *dice) pairs(most int) pairs {
	m := pairs{}
	for range g.below(most + 1) {
		m[g.key()] = g.hash()
	}
	return m
}
