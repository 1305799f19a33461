package gossip_test

import (
	"slices"
	"testing"

	"trolley/api"
	"trolley/gossip"
)

func TestP13_1New(t *testing.T) {
	for _, self := range wrongNodes() {
		if b, e := gossip.New(self); b != nil || e != api.ErrArg {
			t.Errorf("New(%d): %v, %v", self, b, e)
		}
	}
	for self := range api.MaxNodes {
		b := of(t, self)
		b.has()
		first := 0
		if self == 0 {
			first = 1
		}
		b.sends(0, nodes(7, 6, 5, 4, 3, 2, 1, 0), first)
		b.has()
	}
}

func TestP13_2Hear(t *testing.T) {
	b := of(t, 0)
	b.hears()
	b.has()
	b.hears(peer(5, 0, alive))
	b.has(peer(5, 0, alive))
	b.hears(peer(7, 3, dead), peer(2, api.MaxInc, suspect), peer(0, 1, dead)) // of the box's own node too
	b.has(peer(0, 1, dead), peer(2, api.MaxInc, suspect), peer(5, 0, alive), peer(7, 3, dead))
	// One list may tell of one node often: they are taken in order.
	b = of(t, 3, peer(1, 0, suspect), peer(1, 0, alive), peer(4, 0, alive), peer(1, 2, alive), peer(4, 1, alive), peer(1, 1, dead))
	b.has(peer(1, 2, alive), peer(4, 1, alive))
	b = of(t, 3)
	if e := b.Hear([]api.Peer{}); e != api.OK {
		t.Errorf("Hear of an empty list: %v", e)
	}
}

func TestP13_2TheNewer(t *testing.T) {
	for node := range api.MaxNodes {
		rising := peers(
			peer(node, 0, alive), peer(node, 0, suspect), peer(node, 0, dead), peer(node, 1, alive), peer(node, 1, dead),
			peer(node, api.MaxInc-1, dead), peer(node, api.MaxInc, alive), peer(node, api.MaxInc, suspect), peer(node, api.MaxInc, dead),
		)
		for i, a := range rising {
			for j, next := range rising {
				of(t, 0, a, next).has(rising[max(i, j)])
			}
		}
	}
}

func TestP13_2RumoursThatCantBe(t *testing.T) {
	for _, wrong := range wrongPeers() {
		for _, l := range [][]api.Peer{
			{wrong},
			{wrong, peer(1, 9, dead), peer(4, 0, alive)},
			{peer(1, 9, dead), peer(4, 0, alive), wrong},
			{peer(1, 9, dead), wrong, peer(4, 0, alive), wrong},
		} {
			b := of(t, 0, peer(1, 0, alive))
			if e := b.Hear(l); e != api.ErrPeer {
				t.Errorf("Hear(%v): %v", l, e)
			}
			b.has(peer(1, 0, alive)) // nothing of it is kept
			b.sends(0, nodes(1), 1, peer(1, 0, alive))
		}
	}
}

// The edges of what can be.
func TestP13_2RumoursThatCanBe(t *testing.T) {
	for _, node := range nodes(0, 1, api.MaxNodes-1) {
		for _, inc := range []int{0, 1, api.MaxInc - 1, api.MaxInc} {
			for status := alive; status <= dead; status++ {
				of(t, 3, peer(node, inc, status)).has(peer(node, inc, status))
			}
		}
	}
}

// Sent least often first, of several by their node.
func TestP13_2OrderOfRumours(t *testing.T) {
	b := of(t, 0, peer(5, 0, alive), peer(3, 0, alive))
	b.sends(0, nodes(1), 1, peer(3, 0, alive), peer(5, 0, alive))
	b.hears(peer(6, 0, alive), peer(1, 0, alive))
	b.has(peer(1, 0, alive), peer(6, 0, alive), peer(3, 0, alive), peer(5, 0, alive))
	b.sends(100, nodes(1), 1, peer(1, 0, alive), peer(6, 0, alive), peer(3, 0, alive), peer(5, 0, alive))
	b.has(peer(1, 0, alive), peer(6, 0, alive), peer(3, 0, alive), peer(5, 0, alive))
	b.hears(peer(4, 0, alive))
	b.has(peer(4, 0, alive), peer(1, 0, alive), peer(6, 0, alive), peer(3, 0, alive), peer(5, 0, alive))
	b.sends(200, nodes(1), 1, peer(4, 0, alive), peer(1, 0, alive), peer(6, 0, alive), peer(3, 0, alive))
	b.has(peer(4, 0, alive), peer(1, 0, alive), peer(5, 0, alive), peer(6, 0, alive))
}

// A newer one was not sent yet, one that is as new or older changes nothing.
func TestP13_2SentAnew(t *testing.T) {
	b := of(t, 0, peer(1, 1, alive), peer(2, 0, alive))
	b.sends(0, nodes(1), 1, peer(1, 1, alive), peer(2, 0, alive))
	b.hears(peer(2, 0, suspect))
	b.has(peer(2, 0, suspect), peer(1, 1, alive))
	b.hears(peer(1, 1, alive), peer(1, 0, dead), peer(2, 0, alive), peer(2, 0, suspect))
	b.has(peer(2, 0, suspect), peer(1, 1, alive))
	b.sends(100, nodes(1), 1, peer(2, 0, suspect), peer(1, 1, alive))
	b.sends(200, nodes(1), 1, peer(2, 0, suspect), peer(1, 1, alive))
	b.has(peer(2, 0, suspect)) // of 1 it was the third time
	b.hears(peer(1, 1, alive), peer(1, 0, dead))
	b.has(peer(2, 0, suspect))
	b.hears(peer(1, 1, suspect))
	b.has(peer(1, 1, suspect), peer(2, 0, suspect))
}

func TestNoBox(t *testing.T) {
	for name, b := range map[string]*gossip.Box{"nil": nil, "plain": {}, "new": new(gossip.Box)} {
		for _, l := range [][]api.Peer{nil, {}, {peer(1, 0, alive)}, {peer(1, -1, alive)}, wrongPeers()} {
			if e := b.Hear(l); e != api.ErrNil {
				t.Errorf("%s: Hear(%v): %v", name, l, e)
			}
		}
		for _, now := range []int{-1, 0, 100, 1 << 40} {
			if l := b.Tick(now, some(), nodes(0, 1, 2)); l != nil {
				t.Errorf("%s: Tick(%d): %v", name, now, l)
			}
		}
		if l := b.Rumours(); l != nil {
			t.Errorf("%s: %v", name, l)
		}
	}
}

// Nothing that is handed in is changed or kept, no two answers share their memory, and no two boxes anything.
func TestMemory(t *testing.T) {
	spoil := func(l []api.Peer) {
		for i := range l[:cap(l)] {
			l[:cap(l)][i] = peer(-7, -7, -7)
		}
	}
	b, other := of(t, 0), of(t, 0)
	heard := append(make([]api.Peer, 0, 9), peer(4, 0, alive), peer(2, 0, suspect), peer(2, 1, alive))
	was := slices.Clone(heard[:9])
	b.hears(heard...)
	if !slices.Equal(heard[:9], was) {
		t.Errorf("what was handed in is %v", heard[:9])
	}
	spoil(heard)
	spoil(b.Rumours())
	b.has(peer(2, 1, alive), peer(4, 0, alive))
	other.has()

	ring := some()
	ring.Members = append(make([]api.Member, 0, 9), ring.Members...)
	others := append(make([]int, 0, 9), 3, 1, 2)
	members, all := slices.Clone(ring.Members[:9]), slices.Clone(others[:9])
	first := b.Tick(0, ring, others)
	if !slices.Equal(ring.Members[:9], members) || !slices.Equal(others[:9], all) {
		t.Errorf("what was handed in is %v, %v", ring.Members[:9], others[:9])
	}
	second := b.Tick(100, ring, others)
	for i := range others[:9] {
		others[:9][i] = 6
	}
	for i := range ring.Members[:9] {
		ring.Members[:9][i] = api.Member{Node: -7}
	}
	want := peers(peer(2, 1, alive), peer(4, 0, alive))
	for i, l := range [][]api.Msg{first, second} {
		if len(l) != 1 || !same(l[0], message(0, i+1, some(), want...)) {
			t.Fatalf("message %d is %v", i, l)
		}
		spoil(l[0].Peers)
		for j := range l[0].Ring.Members[:cap(l[0].Ring.Members)] {
			l[0].Ring.Members[:cap(l[0].Ring.Members)][j] = api.Member{Node: -7}
		}
		for j := range l[:cap(l)] {
			l[:cap(l)][j] = api.Msg{From: -7, To: -7}
		}
	}
	b.sends(200, nodes(1, 2, 3), 3, want...)
	b.has()
	other.sends(0, nodes(1, 2, 3), 1)
}
