package gossip_test

import (
	"math"
	"slices"
	"testing"

	"trolley/api"
)

func TestP13_3Times(t *testing.T) {
	for _, first := range []int{0, 1, 99, 100, 101, 1 << 40, math.MaxInt - 200} {
		b := of(t, 0)
		b.sends(first, nodes(1, 2, 3), 1) // this one nothing holds back
		for _, now := range []int{first, first + 1, first + 50, first + 99, 0, first - 1, first - 100, first - 1000, -1, math.MinInt} {
			b.rests(now, nodes(1, 2, 3))
		}
		b.sends(first+100, nodes(1, 2, 3), 2)
		b.rests(first+199, nodes(1, 2, 3))
		b.sends(first+200, nodes(1, 2, 3), 3)
	}
	b := of(t, 0)
	b.sends(0, nodes(1), 1)
	b.sends(5000, nodes(1), 1) // later than need be: from then on it counts
	b.rests(5099, nodes(1))
	b.sends(5100, nodes(1), 1)
	b.sends(math.MaxInt, nodes(1), 1)
	for _, now := range []int{math.MaxInt, 0, 5200, -1, math.MinInt} {
		b.rests(now, nodes(1))
	}
}

func TestP13_3BelowNought(t *testing.T) {
	b := of(t, 0, peer(1, 0, alive))
	for _, now := range []int{-1, -100, -1 << 40, math.MinInt} {
		b.rests(now, nodes(1, 2))
	}
	b.has(peer(1, 0, alive))
	b.sends(0, nodes(1, 2), 1, peer(1, 0, alive))
	for _, now := range []int{-1, -100, -1 << 40, math.MinInt} {
		b.rests(now, nodes(1, 2))
	}
	b.sends(100, nodes(1, 2), 2, peer(1, 0, alive))
}

// A Tick that told nothing counts for nothing.
func TestP13_3WhatToldNothing(t *testing.T) {
	b := of(t, 4, peer(1, 0, alive))
	for _, others := range [][]int{nil, {}, {4}, {4, 4, 4}, wrongNodes(), append(wrongNodes(), 4)} {
		b.rests(0, others)
		b.rests(70, others)
	}
	b.has(peer(1, 0, alive))
	b.sends(0, nodes(4, 2, 7), 2, peer(1, 0, alive))
	b.rests(99, nodes(4, 2, 7))
	for _, others := range [][]int{nil, {}, {4}, {4, 4, 4}, wrongNodes(), append(wrongNodes(), 4)} {
		b.rests(150, others)
	}
	b.sends(150, nodes(4, 2, 7), 7, peer(1, 0, alive))
	b.rests(249, nodes(4, 2, 7))
	b.rests(250, nil)
	b.sends(251, nodes(4, 2, 7), 2, peer(1, 0, alive))
}

func TestP13_3NextNode(t *testing.T) {
	for _, c := range []struct {
		self   int
		others []int
		to     []int
	}{
		{0, nodes(1, 2, 3), nodes(1, 2, 3, 1, 2, 3, 1)}, // the document's example
		{0, nodes(3, 1, 2), nodes(1, 2, 3, 1, 2, 3, 1)}, // in whatever order
		{0, nodes(3, 1, 3, 2, 1), nodes(1, 2, 3, 1, 2)}, // or often
		{0, nodes(7), nodes(7, 7, 7)},
		{7, nodes(0), nodes(0, 0, 0)},
		{2, nodes(0, 1, 2, 3), nodes(0, 1, 3, 0, 1, 3)}, // not to itself
		{0, nodes(0, 1), nodes(1, 1, 1)},
		{5, nodes(7, 6, 5, 4, 3, 2, 1, 0), nodes(0, 1, 2, 3, 4, 6, 7, 0, 1)},
		{5, append(wrongNodes(), 6, 2), nodes(2, 6, 2, 6)}, // nor to what is no node
		{5, append(nodes(6, 2), wrongNodes()...), nodes(2, 6, 2, 6)},
	} {
		b := of(t, c.self)
		for i, to := range c.to {
			b.sends(100*i, c.others, to)
		}
	}
}

// Above the last message's node, whoever that was.
func TestP13_3OthersThatChange(t *testing.T) {
	b := of(t, 1)
	now := 0
	for _, step := range []struct {
		others []int
		to     int
	}{
		{nodes(5, 3), 3}, {nodes(2, 4, 5), 4}, {nodes(2, 3, 4), 2}, {nodes(0, 2), 0}, {nodes(0, 1), 0}, {nodes(7, 0), 7}, {nodes(7), 7}, {nodes(1, 6), 6}, {nodes(0, 6, 7), 7}, {nodes(6, 1, 5), 5}, {nodes(5, 4), 4},
	} {
		b.sends(now, step.others, step.to)
		now += 100
	}
}

// The ring is handed on as it is, whether it can be or not; all that the document does not name is zero.
func TestP13_3TheMessage(t *testing.T) {
	for _, r := range []api.Ring{
		{}, some(),
		{Parts: -1, Copies: 99, Spots: math.MinInt, Members: []api.Member{{Node: 9}, {Node: 9, Epoch: -1}, {Node: 0, Status: 77}}},
		{Members: []api.Member{}},
		{Members: slices.Repeat([]api.Member{{Node: 3}}, 5000)},
	} {
		b := of(t, 6, peer(2, 0, dead))
		for i, others := range [][]int{{6, 3}, {6, 5}} {
			l := b.Tick(100*i, r, others)
			if len(l) != 1 || !same(l[0], message(6, others[1], r, peer(2, 0, dead))) {
				t.Errorf("%v", l)
			}
		}
	}
}

func TestP13_3FourRumours(t *testing.T) {
	all := peers(peer(0, 0, alive), peer(1, 0, suspect), peer(2, 0, dead), peer(3, 1, alive), peer(5, 0, alive), peer(6, 0, alive), peer(7, 0, alive))
	for n := range len(all) + 1 {
		b := of(t, 4, all[:n]...)
		b.sends(0, nodes(1), 1, all[:min(n, 4)]...)
		b.has(append(slices.Clone(all[min(n, 4):n]), all[:min(n, 4)]...)...)
	}
	// Those that were left out go ahead the next time, and those that went along come behind them.
	b := of(t, 4, all[:5]...)
	b.sends(0, nodes(1), 1, all[0], all[1], all[2], all[3])
	b.sends(100, nodes(1), 1, all[4], all[0], all[1], all[2])
	b.sends(200, nodes(1), 1, all[3], all[4], all[0], all[1])
	b.has(all[2], all[3], all[4])
	b.sends(300, nodes(1), 1, all[2], all[3], all[4])
	b.has()
	b.sends(400, nodes(1), 1)
}

// MaxRumour times, whoever it was sent to; behind that messages go on without it.
func TestP13_4SoManyTimes(t *testing.T) {
	b := of(t, 0, peer(3, 1, suspect))
	for i := range api.MaxRumour {
		b.has(peer(3, 1, suspect))
		b.sends(100*i, nodes(1, 2), 1+i%2, peer(3, 1, suspect))
	}
	b.has()
	b.sends(300, nodes(1, 2), 2)
	b.hears(peer(3, 1, suspect), peer(3, 1, alive), peer(3, 0, dead)) // it is heard of once more, and is not to be sent
	b.has()
	b.sends(400, nodes(1, 2), 1)
	b.hears(peer(3, 1, dead))
	for i := range api.MaxRumour {
		b.has(peer(3, 1, dead))
		b.sends(500+100*i, nodes(1, 2), 2-i%2, peer(3, 1, dead))
	}
	b.has()
}

func TestP13_4SentAtMostSoOften(t *testing.T) {
	g := &dice{x: 134}
	for run := range 300 {
		b := of(t, run%api.MaxNodes)
		sent := map[api.Peer]int{}
		for i := range 200 {
			if g.below(3) == 0 {
				b.hears(g.peers(4)...)
			}
			for _, m := range b.Tick(100*i, some(), g.others(5)) {
				if len(m.Peers) > 4 {
					t.Fatalf("%v", m.Peers)
				}
				for _, p := range m.Peers {
					sent[p]++
				}
			}
		}
		often := 0
		for p, n := range sent {
			if n > api.MaxRumour {
				t.Fatalf("%v was sent %d times", p, n)
			}
			if n == api.MaxRumour {
				often++
			}
		}
		if often < 3 {
			t.Errorf("only %d were sent as often as may be", often)
		}
	}
}

func TestP13_5AllInTurn(t *testing.T) {
	g := &dice{x: 135}
	for run := range 500 {
		self := run % api.MaxNodes
		b := of(t, self, g.peers(9)...)
		now := 0
		for range g.below(5) {
			b.Tick(now, some(), g.others(4))
			now += 100
		}
		others := g.others(20)
		want := slices.DeleteFunc(slices.Clone(others), func(n int) bool { return n == self || n < 0 || n >= api.MaxNodes })
		slices.Sort(want)
		want = slices.Compact(want)
		for range 3 {
			var got []int
			for range want {
				for _, m := range b.Tick(now, some(), others) {
					got = append(got, m.To)
				}
				now += 100 + g.below(3)
			}
			slices.Sort(got)
			if !slices.Equal(got, want) {
				t.Fatalf("of %v each is to get one: %v", want, got)
			}
		}
	}
}

func TestP13_6TheNewest(t *testing.T) {
	g := &dice{x: 136}
	for run := range 300 {
		b := of(t, run%api.MaxNodes)
		newest := map[int]api.Peer{}
		for i := range 200 {
			if g.below(2) == 0 {
				for _, p := range g.peers(4) {
					b.hears(p)
					if old, is := newest[p.Node]; !is || newer(p, old) {
						newest[p.Node] = p
					}
				}
			}
			for _, m := range b.Tick(100*i, some(), nodes(0, 1)) {
				for _, p := range m.Peers {
					if p != newest[p.Node] {
						t.Fatalf("%v is sent, %v was heard", p, newest[p.Node])
					}
				}
			}
		}
	}
}
