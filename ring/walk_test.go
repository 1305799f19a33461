package ring_test

import (
	"math"
	"slices"
	"strconv"
	"testing"

	"trolley/api"
	"trolley/ident"
	"trolley/ring"
)

func TestP6_4In(t *testing.T) {
	if nodes := ring.In(sample()); !slices.Equal(nodes, []int{0, 3, 7}) {
		t.Errorf("sample: %v", nodes)
	}
	if nodes := ring.In(shaped(8, 3, 4)); !slices.Equal(nodes, []int{0, 1, 2, 3, 4, 5, 6, 7}) {
		t.Errorf("all: %v", nodes)
	}
	for _, r := range append(wrongRings(), of(), of(member(2, 1, 2, api.RingOut))) {
		if nodes := ring.In(r); len(nodes) != 0 {
			t.Errorf("%v: %v", r, nodes)
		}
	}
}

func TestP6_4Epoch(t *testing.T) {
	for node, want := range []int{2, 0, 1, 1, 0, 0, 0, 4} {
		if got := ring.Epoch(sample(), node); got != want {
			t.Errorf("node %d: %d", node, got)
		}
	}
	if got := ring.Epoch(of(member(7, api.MaxEpoch, 1, api.RingOut)), 7); got != api.MaxEpoch {
		t.Errorf("the greatest: %d", got)
	}
	for _, node := range wrongNodes() {
		if got := ring.Epoch(shaped(8, 3, 4), node); got != 0 {
			t.Errorf("node %d: %d", node, got)
		}
	}
	for _, r := range append(wrongRings(), of()) {
		for node := range api.MaxNodes {
			if got := ring.Epoch(r, node); got != 0 {
				t.Errorf("%v, node %d: %d", r, node, got)
			}
		}
	}
}

func TestP6_4Part(t *testing.T) {
	keys := []string{"", "cart-1", "a key that may not be", "\xff\x00", string(make([]byte, 1<<12))}
	for i := range 300 {
		keys = append(keys, "key"+strconv.Itoa(i))
	}
	for bits := range 7 {
		r := shaped(1<<bits, 3, 4)
		told := map[int]bool{}
		for _, key := range keys {
			part := ring.Part(r, key)
			want := 0
			for i := range bits { // a partition's number is the position's highest bits
				want = want*2 + int(ident.Position(key)>>(63-i)&1)
			}
			if part != want || ring.Part(api.Ring{Parts: 1 << bits, Copies: 1, Spots: 1}, key) != want {
				t.Errorf("%q of %d parts: %d", key, 1<<bits, part)
			}
			told[part] = true
		}
		if len(told) != 1<<bits {
			t.Errorf("%d of %d partitions have keys", len(told), 1<<bits)
		}
	}
	for _, r := range wrongRings() {
		for _, key := range keys[:20] {
			if part := ring.Part(r, key); part != 0 {
				t.Errorf("%v: %d", r, part)
			}
		}
	}
}

func TestP6_5Walk(t *testing.T) {
	for _, r := range append(rightRings(), of(member(2, 1, 2, api.RingOut))) {
		given := roomy(r)
		for _, position := range positions() {
			got := ring.Walk(given, position)
			if !slices.Equal(got, walked(r, position)) {
				t.Fatalf("%v from %x: %v, want %v", r, position, got, walked(r, position))
			}
		}
		if !untouched(given, r) {
			t.Errorf("%v has changed", r)
		}
	}
	for _, r := range wrongRings() {
		if nodes := ring.Walk(r, 1<<63); len(nodes) != 0 {
			t.Errorf("%v: %v", r, nodes)
		}
	}
}

// A place is met at its own position, and the last of all at the one behind.
func TestP6_5WalkAtAPlace(t *testing.T) {
	r := shaped(8, 3, 1)
	for node := range api.MaxNodes {
		p := ident.Point(node, 0)
		at, behind := ring.Walk(r, p), ring.Walk(r, p+1)
		if at[0] != node || behind[api.MaxNodes-1] != node {
			t.Errorf("node %d: %v, %v", node, at, behind)
		}
		if !slices.Equal(at[1:], behind[:api.MaxNodes-1]) {
			t.Errorf("node %d: %v, then %v", node, at, behind)
		}
	}
}

func TestP6_5Owners(t *testing.T) {
	for _, r := range append(rightRings(), of(member(2, 1, 2, api.RingOut))) {
		given := roomy(r)
		for part := range r.Parts {
			start, _ := ident.Start(part, r.Parts)
			want := walked(r, start)
			want = want[:min(len(want), r.Copies)]
			got := ring.Owners(given, part)
			if !slices.Equal(got, want) {
				t.Fatalf("%v, part %d: %v, want %v", r, part, got, want)
			}
			for node := -1; node <= api.MaxNodes; node++ {
				if ring.Owns(given, node, part) != slices.Contains(want, node) {
					t.Fatalf("%v: does %d own %d?", r, node, part)
				}
			}
			all := got[:cap(got)]
			for i := range all {
				all[i] = -7
			}
		}
		if !untouched(given, r) {
			t.Errorf("%v has changed", r)
		}
	}
}

func TestP6_5NoPartition(t *testing.T) {
	for _, r := range rightRings() {
		for _, part := range []int{math.MinInt, -1, r.Parts, r.Parts + 1, 1 << 32, math.MaxInt} {
			if nodes := ring.Owners(r, part); len(nodes) != 0 || ring.Owns(r, 0, part) {
				t.Errorf("%v, part %d: %v", r, part, nodes)
			}
		}
	}
	for _, r := range wrongRings() {
		for _, part := range []int{-1, 0, 1, 7} {
			if nodes := ring.Owners(r, part); len(nodes) != 0 || ring.Owns(r, 0, part) {
				t.Errorf("%v, part %d: %v", r, part, nodes)
			}
		}
	}
	for _, node := range wrongNodes() {
		if ring.Owns(shaped(8, 3, 4), node, 0) {
			t.Errorf("%d owns something", node)
		}
	}
}

func TestExamplesOfTheDocument(t *testing.T) {
	r, e := ring.New(8, 3, 4)
	ok(t, "New", e)
	for node := range 3 {
		r, e = ring.Join(r, node)
		ok(t, "Join", e)
	}
	if nodes := ring.In(r); !slices.Equal(nodes, []int{0, 1, 2}) {
		t.Errorf("In: %v", nodes)
	}
	for part := range 8 {
		nodes := ring.Owners(r, part)
		slices.Sort(nodes)
		if !slices.Equal(nodes, []int{0, 1, 2}) {
			t.Errorf("Owners of %d: %v", part, nodes)
		}
	}
	left, e := ring.Leave(r, 1)
	ok(t, "Leave", e)
	if m := merge(t, r, left); !ring.Same(m, left) || m.Members[1] != member(1, 1, 2, api.RingOut) {
		t.Errorf("Merge: %v", m)
	}
	back, e := ring.Join(left, 1)
	if e != api.OK || back.Members[1] != member(1, 2, 3, api.RingIn) {
		t.Errorf("Join again: %v, %v", back, e)
	}
	if _, e := ring.New(3, 3, 4); e != api.ErrArg {
		t.Errorf("New of 3 parts: %v", e)
	}
	if _, e := ring.Join(r, 8); e != api.ErrArg {
		t.Errorf("Join of 8: %v", e)
	}
	if _, e := ring.Join(r, 1); e != api.ErrThere {
		t.Errorf("Join twice: %v", e)
	}
}
