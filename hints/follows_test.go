package hints_test

import (
	"slices"
	"strconv"
	"testing"

	"trolley/api"
)

// log is when hints of each node were told.
type log [api.MaxNodes][]int

func (l *log) add(now int, told []api.Hint) {
	for _, h := range told {
		l[h.Owner] = append(l[h.Owner], now)
	}
}

// most is how many were told of a node within less than MaxAge, at most.
func (l *log) most(node int) int {
	most := 0
	for i, first := range l[node] {
		n := 0
		for _, at := range l[node][i:] {
			if at-first < api.MaxAge {
				n++
			}
		}
		most = max(most, n)
	}
	return most
}

func TestP16_5FewAtOnce(t *testing.T) {
	g := &dice{x: 5}
	four := 0
	for run := range 200 {
		b := with(t)
		var told log
		now, made := 0, 0
		for range 150 {
			if g.below(2) == 0 && made < api.MaxHints {
				b.puts(hint(g.below(1+run%api.MaxNodes), "k"+strconv.Itoa(made)))
				made++
				continue
			}
			now += g.from(0, 1, 10, 100, 249, 250, 333, 999, 1000, 1001)
			told.add(now, b.Due(now, g.up(6)))
		}
		for node := range api.MaxNodes {
			if n := told.most(node); n > api.MaxReplay {
				t.Fatalf("run %d: %d hints of node %d at once: %v", run, n, node, told[node])
			} else if n == api.MaxReplay {
				four++
			}
		}
	}
	if four < 200 {
		t.Errorf("only %d times as many as may be", four)
	}
}

// What is dropped or put again makes room; between two such calls there are few at once still.
func TestP16_5BetweenDrops(t *testing.T) {
	g := &dice{x: 6}
	for run := range 200 {
		b := with(t, many(100, 0, 1)...)
		var told log
		now := 0
		for range 200 {
			if h := many(100, 0, 1)[g.below(100)]; g.below(6) == 0 {
				b.puts(h)
				if g.below(2) == 0 {
					b.drops(h)
				}
				told[h.Owner] = nil
				continue
			}
			now += g.from(0, 1, 100, 500, 999, 1000)
			told.add(now, b.Due(now, nodes(0, 1)))
			for node := range 2 {
				if n := told.most(node); n > api.MaxReplay {
					t.Fatalf("run %d: %d hints of node %d at once: %v", run, n, node, told[node])
				}
			}
		}
	}
}

func TestP16_6NoneIsForgotten(t *testing.T) {
	g := &dice{x: 7}
	for _, count := range []int{1, 2, 3, 4, 5, 8, 9, 100, 255, api.MaxHints} {
		for _, owners := range [][]int{{3}, {3, 5}, {0, 3, 7}} {
			all := many(count, owners...)
			b := with(t, all...)
			now, waiting := 0, b.Count(3)
			for call := 1; waiting > 0 && call <= count; call++ {
				got := b.Due(now, nodes(5, 3, 1))
				want := min(waiting, api.MaxReplay)
				if n := len(got); n < want {
					t.Fatalf("%d hints of %v: call %d tells %v", count, owners, call, got)
				}
				for _, h := range got {
					if h.Owner == 3 {
						waiting--
						if place := placeOf(all, h); call > place/api.MaxReplay+1 {
							t.Errorf("%v at place %d is told by call %d", h, place, call)
						}
						b.drops(h)
					}
				}
				now += api.MaxAge + g.from(0, 0, 1, 5000)
			}
			if b.Count(3) != 0 {
				t.Errorf("%d hints of %v: %d are there still", count, owners, b.Count(3))
			}
		}
	}
}

// placeOf is a hint's place among its node's hints.
func placeOf(all []api.Hint, h api.Hint) int {
	mine := slices.DeleteFunc(slices.Clone(all), func(o api.Hint) bool { return o.Owner != h.Owner })
	return slices.Index(mine, h)
}

// Hints that come behind, and those that are put again, do not hold up the others: it is their places that count.
func TestP16_6WhateverComesBehind(t *testing.T) {
	all := many(40, 2)
	b := with(t, all...)
	for call := 1; call <= 10; call++ {
		b.puts(hint(2, "more"+strconv.Itoa(call)), all[39])
		mine := all[(call-1)*api.MaxReplay : call*api.MaxReplay]
		b.tells(call*api.MaxAge, nodes(2), mine...)
		b.drops(mine...)
		if call == 10 {
			continue
		}
		b.tells(call*api.MaxAge, nil)
	}
	b.tells(11*api.MaxAge, nodes(2), of(2, "more1", "more2", "more3", "more4")...)
}

func TestP16_7Dropped(t *testing.T) {
	g := &dice{x: 8}
	all := many(24, 0, 1, 2)
	for run := range 200 {
		b := with(t, all...)
		gone := map[api.Hint]int{}
		now := 0
		for range 60 {
			h := all[g.below(len(all))]
			switch g.below(4) {
			case 0:
				if e := b.Drop(h); e != api.OK && (e != api.ErrHint || gone[h] == 0) {
					t.Fatalf("run %d: Drop(%v): %v", run, h, e)
				}
				gone[h] = 1
			case 1:
				b.puts(h)
				gone[h] = 0
			default:
				now += g.from(0, 1, 500, 1000)
				for _, told := range b.Due(now, nodes(0, 1, 2)) {
					if gone[told] != 0 {
						t.Fatalf("run %d: %v is told, though it was dropped", run, told)
					}
				}
			}
		}
	}
	b := with(t, of(1, "a", "b")...)
	b.drops(hint(1, "a"))
	b.tells(0, nodes(1), hint(1, "b"))
	b.tells(1000, nodes(1), hint(1, "b"))
	b.puts(hint(1, "a"))
	b.tells(1000, nodes(1), hint(1, "a"))
}

func TestP16_8Apart(t *testing.T) {
	// Whatever is asked of the others, node 1's hints are told as if nobody had asked.
	g := &dice{x: 9}
	for run := range 100 {
		b, alone := with(t, many(30, 1, 2, 4)...), with(t, many(30, 1, 2, 4)...)
		now := 0
		for range 40 {
			now += g.from(0, 1, 400, 999, 1000)
			for _, h := range b.Due(now, nodes(2, 4, 9, -1, 2)) {
				if h.Owner == 1 {
					t.Fatalf("run %d: %v is told", run, h)
				}
			}
			if g.below(3) == 0 {
				b.tells(now, nodes(1), alone.Due(now, nodes(1))...)
			}
			b.has(many(30, 1, 2, 4)...)
		}
	}
	b := with(t, hint(1, "a"), hint(2, "a"))
	b.tells(0, nodes(1), hint(1, "a"))
	b.tells(500, nodes(2), hint(2, "a"))
	b.tells(1000, nodes(2))
	b.tells(1000, nodes(1), hint(1, "a")) // sent since 0, as it was
	b.tells(1499, nodes(1, 2))
	b.tells(1500, nodes(1, 2), hint(2, "a"))
	b.tells(99999, nodes(3, 0))
	b.has(hint(1, "a"), hint(2, "a"))
}
