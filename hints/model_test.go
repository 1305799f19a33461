package hints_test

import (
	"slices"
	"strconv"
	"testing"

	"trolley/api"
	"trolley/ident"
)

// model is a box as the document says it: an order, and since when what is sent is sent.
type model struct {
	order []api.Hint
	sent  map[api.Hint]int
	now   int
}

func (m *model) check(h api.Hint) api.Errno {
	if h.Owner < 0 || h.Owner > 7 {
		return 1
	}
	if !ident.IsKey(h.Key) {
		return 6
	}
	return 0
}

func (m *model) put(h api.Hint) api.Errno {
	if e := m.check(h); e != 0 {
		return e
	}
	if slices.Contains(m.order, h) {
		delete(m.sent, h)
		return 0
	}
	if len(m.order) == 256 {
		return 7
	}
	m.order = append(m.order, h)
	return 0
}

func (m *model) drop(h api.Hint) api.Errno {
	if e := m.check(h); e != 0 {
		return e
	}
	if !slices.Contains(m.order, h) {
		return 160
	}
	m.order = slices.DeleteFunc(m.order, func(o api.Hint) bool { return o == h })
	delete(m.sent, h)
	return 0
}

func (m *model) due(now int, up []int) []api.Hint {
	m.now = max(m.now, now, 0)
	var told []api.Hint
	for i, node := range up {
		if node < 0 || node > 7 || slices.Contains(up[:i], node) {
			continue
		}
		var others []api.Hint
		onTheWay := 0
		for _, h := range m.order {
			since, sent := m.sent[h]
			switch {
			case h.Owner != node:
			case sent && m.now-since < 1000:
				onTheWay++
			default:
				others = append(others, h)
			}
		}
		others = others[:min(len(others), 4-onTheWay)]
		for _, h := range others {
			m.sent[h] = m.now
		}
		told = append(told, others...)
	}
	return told
}

// Boxes and models that are handed the same answer the same.
func TestThrownCalls(t *testing.T) {
	g := &dice{x: 16}
	told, silent, seen := 0, 0, map[api.Errno]int{}
	for run := range 300 {
		b, m := with(t), &model{sent: map[api.Hint]int{}}
		owners, keys := 1+g.below(8), 1+g.below(60)
		full := run%3 == 0 // such a box is seldom asked to drop
		now := 0
		for range 400 {
			h := hint(g.below(owners), "k"+strconv.Itoa(g.below(keys)))
			if g.below(30) == 0 {
				h = wrongHints()[g.below(len(wrongHints()))].hint
			}
			switch n := g.below(12); {
			case n < 5, full && n < 9:
				want := m.put(h)
				seen[want]++
				if e := b.Put(h); e != want {
					t.Fatalf("run %d: Put(%v): %v, want %v", run, h, e, want)
				}
			case n < 8:
				want := m.drop(h)
				seen[want]++
				if e := b.Drop(h); e != want {
					t.Fatalf("run %d: Drop(%v): %v, want %v", run, h, e, want)
				}
			default:
				now += g.from(0, 0, 1, 1, 50, 333, 499, 500, 999, 1000, 1001)
				at := now - g.from(0, 0, 0, 1, 1000, 1<<62)
				up := g.up(6)
				want := m.due(at, up)
				if len(want) > 0 {
					told++
				} else {
					silent++
				}
				if got := b.Due(at, up); !slices.Equal(got, want) {
					t.Fatalf("run %d: Due(%d, %v) = %v, want %v", run, at, up, got, want)
				}
			}
			if b.Has(h) != slices.Contains(m.order, h) {
				t.Fatalf("run %d: Has(%v) = %v", run, h, b.Has(h))
			}
		}
		b.has(m.order...)
		if t.Failed() {
			t.Fatalf("in run %d", run)
		}
	}
	if told < 5000 || silent < 2000 || seen[0] < 10000 || seen[api.ErrHint] < 2000 || seen[api.ErrArg] < 100 || seen[api.ErrName] < 100 {
		t.Errorf("%d times told, %d not; %v", told, silent, seen)
	}
}

// The same, of boxes that are filled to their limit and beyond.
func TestThrownCallsOfFullBoxes(t *testing.T) {
	g := &dice{x: 17}
	fullness := 0
	for run := range 20 {
		b, m := with(t), &model{sent: map[api.Hint]int{}}
		now := 0
		for range 1500 {
			h := hint(g.below(8), "k"+strconv.Itoa(g.below(50)))
			switch g.below(10) {
			case 0:
				if e, want := b.Drop(h), m.drop(h); e != want {
					t.Fatalf("run %d: Drop(%v): %v, want %v", run, h, e, want)
				}
			case 1, 2:
				now += g.from(0, 1, 500, 1000)
				up := g.up(10)
				if got, want := b.Due(now, up), m.due(now, up); !slices.Equal(got, want) {
					t.Fatalf("run %d: Due(%d, %v) = %v, want %v", run, now, up, got, want)
				}
			default:
				want := m.put(h)
				if want == api.ErrFull {
					fullness++
				}
				if e := b.Put(h); e != want {
					t.Fatalf("run %d: Put(%v): %v, want %v", run, h, e, want)
				}
			}
		}
		b.has(m.order...)
	}
	if fullness < 500 {
		t.Errorf("only %d times full", fullness)
	}
}
