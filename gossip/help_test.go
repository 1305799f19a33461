package gossip_test

import (
	"math"
	"reflect"
	"slices"
	"testing"

	"trolley/api"
	"trolley/gossip"
)

const (
	alive   = api.PeerAlive
	suspect = api.PeerSuspect
	dead    = api.PeerDead
)

func peer(node, inc, status int) api.Peer { return api.Peer{Node: node, Inc: inc, Status: status} }

func peers(l ...api.Peer) []api.Peer { return l }

func nodes(l ...int) []int { return l }

func wrongNodes() []int {
	return []int{math.MinInt, -2, -1, api.MaxNodes, api.MaxNodes + 1, 1 << 32, math.MaxInt}
}

// wrongPeers are rumours that can't be, each for a reason of its own.
func wrongPeers() []api.Peer {
	l := []api.Peer{{}}
	for _, node := range wrongNodes() {
		l = append(l, peer(node, 0, alive), peer(node, 3, dead))
	}
	for node := range api.MaxNodes {
		for _, inc := range []int{math.MinInt, -1, api.MaxInc + 1, math.MaxInt} {
			l = append(l, peer(node, inc, alive), peer(node, inc, dead))
		}
		for _, status := range []int{math.MinInt, -1, 0, dead + 1, math.MaxInt} {
			l = append(l, peer(node, 0, status), peer(node, 5, status))
		}
	}
	return l
}

// some is a ring; that it is one plays no part.
func some() api.Ring {
	return api.Ring{Parts: 8, Copies: 3, Spots: 4, Members: []api.Member{{Node: 0, Epoch: 1, Stamp: 1, Status: api.RingIn}, {Node: 2, Epoch: 5, Stamp: 9, Status: api.RingOut}}}
}

func message(from, to int, r api.Ring, l ...api.Peer) api.Msg {
	return api.Msg{Kind: api.MsgGossip, From: from, To: to, Ring: r, Peers: l}
}

// box is one whose answers are held against what they are to be.
type box struct {
	t    *testing.T
	self int
	*gossip.Box
}

// of is a box that has heard some rumours.
func of(t *testing.T, self int, l ...api.Peer) box {
	t.Helper()
	made, e := gossip.New(self)
	if e != api.OK || made == nil {
		t.Fatalf("New(%d): %v", self, e)
	}
	b := box{t, self, made}
	b.hears(l...)
	return b
}

func (b box) hears(l ...api.Peer) {
	b.t.Helper()
	if e := b.Hear(l); e != api.OK {
		b.t.Errorf("Hear(%v): %v", l, e)
	}
}

func (b box) has(l ...api.Peer) {
	b.t.Helper()
	if got := b.Rumours(); !slices.Equal(got, l) {
		b.t.Errorf("Rumours() = %v, want %v", got, l)
	}
}

// sends is a Tick that tells a message.
func (b box) sends(now int, others []int, to int, l ...api.Peer) {
	b.t.Helper()
	got := b.Tick(now, some(), others)
	if len(got) != 1 || !same(got[0], message(b.self, to, some(), l...)) {
		b.t.Errorf("Tick(%d, .., %v) = %v, want one to %d with %v", now, others, got, to, l)
	}
}

// rests is one that tells none.
func (b box) rests(now int, others []int) {
	b.t.Helper()
	if got := b.Tick(now, some(), others); len(got) != 0 {
		b.t.Errorf("Tick(%d, .., %v) = %v", now, others, got)
	}
}

// same takes nil and empty lists of rumours and members as one.
func same(a, b api.Msg) bool {
	for _, m := range []*api.Msg{&a, &b} {
		m.Peers = append([]api.Peer{}, m.Peers...)
		m.Ring.Members = append([]api.Member{}, m.Ring.Members...)
	}
	return reflect.DeepEqual(a, b)
}

// dice are numbers that look thrown, the same ones each time.
type dice struct{ x uint64 }

func (g *dice) below(n int) int {
	g.x = g.x*6364136223846793005 + 1442695040888963407
	return int(g.x >> 33 % uint64(n))
}

func (g *dice) from(l ...int) int { return l[g.below(len(l))] }

// peer is a rumour that can be, mostly with a small number.
func (g *dice) peer() api.Peer {
	return peer(g.below(api.MaxNodes), g.from(0, 0, 0, 1, 1, 2, 3, g.below(api.MaxInc), api.MaxInc), 1+g.below(3))
}

func (g *dice) peers(most int) []api.Peer {
	var l []api.Peer
	for range g.below(most + 1) {
		l = append(l, g.peer())
	}
	return l
}

// others is some nodes, in any order, often, and some that are none.
func (g *dice) others(most int) []int {
	var l []int
	for range g.below(most + 1) {
		l = append(l, g.from(append(wrongNodes(), 0, 0, 1, 1, 2, 2, 3, 3, 4, 4, 5, 5, 6, 6, 7, 7)...))
	}
	return l
}
