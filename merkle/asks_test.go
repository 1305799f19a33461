package merkle_test

import (
	"slices"
	"strings"
	"testing"

	"trolley/api"
	"trolley/merkle"
)

func TestP8_5Unlike(t *testing.T) {
	m := pairs{"a": 1, "b": 2, "c": 3, "d": 4}
	tree := m.tree()
	for level := range 5 {
		own, _ := tree.Sums(level, upTo(1<<level))
		if got, e := tree.Unlike(level, own); e != api.OK || len(got) != 0 {
			t.Errorf("Unlike(%d, its own) = %v, %v", level, got, e)
		}
		var sums []api.Sum
		var wanted []int
		for i := range 40 { // each place more than once, with its own hash and with others
			p := (i * 7) % (1 << level)
			s := api.Sum{Place: p, Hash: m.hash(level, p), Key: strings.Repeat(" ", i%3)}
			if i%3 > 0 {
				s.Hash += uint64(i % 3)
				wanted = append(wanted, p)
			}
			sums = append(sums, s)
		}
		if got, e := tree.Unlike(level, sums); e != api.OK || !slices.Equal(got, wanted) {
			t.Errorf("Unlike(%d, ..) = %v, %v, want %v", level, got, e, wanted)
		}
		for _, sums := range [][]api.Sum{nil, {}} {
			if got, e := tree.Unlike(level, sums); e != api.OK || len(got) != 0 {
				t.Errorf("Unlike(%d, none) = %v, %v", level, got, e)
			}
		}
		for _, places := range wrongPlaces(level) {
			if got, e := tree.Unlike(level, sumsAt(places...)); e != api.ErrPlace || got != nil {
				t.Errorf("Unlike(%d, %v) = %v, %v", level, places, got, e)
			}
		}
	}
	for _, level := range wrongLevels(4) {
		for _, sums := range [][]api.Sum{nil, {{}}} {
			if got, e := tree.Unlike(level, sums); e != api.ErrPlace || got != nil {
				t.Errorf("Unlike(%d, %v) = %v, %v", level, sums, got, e)
			}
		}
	}
}

func TestP8_5Below(t *testing.T) {
	for level := range 4 {
		last := 1<<level - 1
		cases := map[int][][]int{
			0: {nil, nil}, 1: {{}, nil}, 2: {{0}, {0, 1}}, 3: {{last}, {2 * last, 2*last + 1}},
			4: {{last, 0, last}, {2 * last, 2*last + 1, 0, 1, 2 * last, 2*last + 1}},
			5: {upTo(1 << level), upTo(2 << level)},
		}
		for _, c := range cases {
			if got, e := merkle.Below(level, c[0]); e != api.OK || !slices.Equal(got, c[1]) {
				t.Errorf("Below(%d, %v) = %v, %v", level, c[0], got, e)
			}
		}
		for _, places := range wrongPlaces(level) {
			if got, e := merkle.Below(level, places); e != api.ErrPlace || got != nil {
				t.Errorf("Below(%d, %v) = %v, %v", level, places, got, e)
			}
		}
	}
	for _, level := range wrongLevels(3) {
		for _, places := range [][]int{nil, {0}} {
			if got, e := merkle.Below(level, places); e != api.ErrPlace || got != nil {
				t.Errorf("Below(%d, %v) = %v, %v", level, places, got, e)
			}
		}
	}
}

func TestP8_6Missed(t *testing.T) {
	k := keysIn(5, 9)
	other := keysIn(6, 2)
	slices.Sort(k)
	m := pairs{k[0]: 1, k[1]: 2, k[2]: 3, k[3]: 0, other[0]: 1}
	tree := m.tree()
	sums := []api.Sum{
		{Key: k[8], Hash: 9},                       // told alone
		{Key: k[0], Hash: 1},                       // alike
		{Key: k[1], Hash: 7, Place: -3},            // unlike
		{Key: k[2], Hash: 7}, {Key: k[2], Hash: 3}, // alike in the end
		{Key: k[4], Hash: 0}, {Key: k[4], Hash: 0}, // told alone, twice
		{Key: other[0], Hash: 2, Place: 5}, // unlike, of another leaf, whatever its Place says
		{Key: other[1], Hash: 2},           // told alone, of another leaf
	}
	cases := []struct {
		places []int
		sums   []api.Sum
		want   []string
	}{
		{nil, sums, nil},
		{[]int{}, sums, nil},
		{[]int{4}, sums, nil},
		{[]int{5}, sums, []string{k[1], k[3], k[4], k[8]}},
		{[]int{5, 5, 4, 5}, sums, []string{k[1], k[3], k[4], k[8]}},
		{[]int{6}, sums, []string{other[0], other[1]}},
		{[]int{5}, nil, []string{k[0], k[1], k[2], k[3]}},
		{[]int{5}, []api.Sum{}, []string{k[0], k[1], k[2], k[3]}},
		{[]int{5}, m.at(5), nil},
		{upTo(16), m.at(upTo(16)...), nil},
		{[]int{5}, append(m.at(5), api.Sum{Key: k[0], Hash: 2}), []string{k[0]}},
		{[]int{5}, append(m.at(5), api.Sum{Key: k[3]}), nil},
	}
	for i, c := range cases {
		slices.Sort(c.want)
		if got, e := tree.Missed(c.places, c.sums); e != api.OK || !slices.Equal(got, c.want) {
			t.Errorf("case %d: %v, %v, want %v", i, got, e, c.want)
		}
	}
	has(t, tree, m)
}

func TestP8_6Errors(t *testing.T) {
	tree := pairs{"a": 1}.tree()
	for _, key := range wrongKeys() {
		for _, sums := range [][]api.Sum{{{Key: key}}, {{Key: "a", Hash: 1}, {Key: key}}, {{Key: key}, {Key: "b"}}} {
			for _, places := range [][]int{nil, {0}, upTo(16)} {
				if got, e := tree.Missed(places, sums); e != api.ErrName || got != nil {
					t.Errorf("Missed(%v, %v) = %v, %v", places, sums, got, e)
				}
			}
			for _, places := range wrongPlaces(4) {
				if got, e := tree.Missed(places, sums); e != api.ErrPlace || got != nil {
					t.Errorf("Missed(%v, %v) = %v, %v", places, sums, got, e)
				}
			}
		}
	}
	for _, places := range wrongPlaces(4) {
		if got, e := tree.Missed(places, nil); e != api.ErrPlace || got != nil {
			t.Errorf("Missed(%v, none) = %v, %v", places, got, e)
		}
	}
}

func TestMemory(t *testing.T) {
	k := keysIn(5, 3)
	m := pairs{k[0]: 1, k[1]: 2, k[2]: 3}
	tree := m.tree()
	places := append(make([]int, 0, 4), 5, 4)
	sums := append(make([]api.Sum, 0, 4), api.Sum{Key: k[2], Place: 5, Hash: 9}, api.Sum{Key: k[0], Place: 5, Hash: 1})
	was, told := slices.Clone(places[:4]), slices.Clone(sums[:4])
	of := merkle.Of(sums)
	for range 2 {
		keys, _ := tree.Keys(places)
		hashes, _ := tree.Sums(4, places)
		unlike, _ := tree.Unlike(4, sums)
		below, _ := merkle.Below(3, places)
		missed, _ := tree.Missed(places, sums)
		if len(keys) != 3 || len(hashes) != 2 || len(unlike) != 2 || len(below) != 4 || len(missed) != 2 {
			t.Fatal(keys, hashes, unlike, below, missed)
		}
		if !slices.Equal(places[:4], was) || !slices.Equal(sums[:4], told) {
			t.Fatal("what was handed in is changed")
		}
		for _, l := range [][]api.Sum{keys, hashes} {
			for i := range l[:cap(l)] {
				l[:cap(l)][i] = api.Sum{Place: -1, Key: "w", Hash: 77}
			}
		}
		for _, l := range [][]int{unlike, below} {
			for i := range l[:cap(l)] {
				l[:cap(l)][i] = -1
			}
		}
		for i := range missed[:cap(missed)] {
			missed[:cap(missed)][i] = "w"
		}
		if !slices.Equal(places[:4], was) || !slices.Equal(sums[:4], told) {
			t.Fatal("an answer shares what was handed in")
		}
		has(t, tree, m)
	}
	sums[0] = api.Sum{Key: "w"}
	has(t, of, pairs{k[2]: 9, k[0]: 1})
}

func TestExamplesOfTheDocument(t *testing.T) {
	empty := merkle.New()
	sums, e := empty.Sums(4, []int{0, 15})
	if empty.Root() != 0 || e != api.OK || !slices.Equal(sums, sumsAt(0, 15)) {
		t.Error(empty.Root(), sums, e)
	}
	one, two := pairs{"a": 1}.tree(), pairs{"a": 2}.tree()
	root, _ := two.Sums(0, []int{0})
	unlike, e := one.Unlike(0, root)
	if e != api.OK || !slices.Equal(unlike, []int{0}) {
		t.Error(unlike, e)
	}
	leaf := []int{merkle.Place("a")}
	keys, _ := two.Keys(leaf)
	missed, e := one.Missed(leaf, keys)
	if e != api.OK || !slices.Equal(missed, []string{"a"}) {
		t.Error(missed, e)
	}
	_, e = one.Sums(5, nil)
	_, f := one.Sums(1, []int{2})
	if e != api.ErrPlace || f != api.ErrPlace {
		t.Error(e, f)
	}
}
