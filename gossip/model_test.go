package gossip_test

import (
	"cmp"
	"slices"
	"testing"

	"trolley/api"
)

// model is a box as the document says it: every rumour that was heard stands in a list, with how often it was sent, and the newest of each node counts.
type model struct {
	self    int
	heard   []counted
	told    bool
	to, at  int
	message api.Msg
	silent  bool
}

type counted struct {
	api.Peer
	sent int
}

func newer(a, b api.Peer) bool {
	if a.Inc != b.Inc {
		return a.Inc > b.Inc
	}
	return a.Status > b.Status
}

func can(p api.Peer) bool {
	return p.Node >= 0 && p.Node <= 7 && p.Inc >= 0 && p.Inc <= 1<<40 && (p.Status == 1 || p.Status == 2 || p.Status == 3)
}

func (m *model) hear(l []api.Peer) api.Errno {
	for _, p := range l {
		if !can(p) {
			return api.ErrPeer
		}
	}
	for _, p := range l {
		as := slices.ContainsFunc(m.heard, func(c counted) bool { return c.Node == p.Node && !newer(p, c.Peer) })
		if !as {
			m.heard = slices.DeleteFunc(m.heard, func(c counted) bool { return c.Node == p.Node })
			m.heard = append(m.heard, counted{Peer: p})
		}
	}
	return api.OK
}

func (m *model) rumours() []api.Peer {
	l := slices.DeleteFunc(slices.Clone(m.heard), func(c counted) bool { return c.sent >= 3 })
	slices.SortFunc(l, func(a, b counted) int { return cmp.Or(a.sent-b.sent, a.Node-b.Node) })
	var all []api.Peer
	for _, c := range l {
		all = append(all, c.Peer)
	}
	return all
}

func (m *model) tick(now int, r api.Ring, others []int) {
	m.silent = true
	if now < 0 || m.told && now-m.at < 100 {
		return
	}
	lowest, above := 99, 99
	for _, n := range others {
		if n == m.self || n < 0 || n > 7 {
			continue
		}
		lowest = min(lowest, n)
		if m.told && n > m.to {
			above = min(above, n)
		}
	}
	if lowest == 99 {
		return
	}
	m.to = lowest
	if above != 99 {
		m.to = above
	}
	m.silent, m.told, m.at = false, true, now
	l := m.rumours()
	if len(l) > 4 {
		l = l[:4]
	}
	m.message = message(m.self, m.to, r, l...)
	for i, c := range m.heard {
		if slices.Contains(l, c.Peer) {
			m.heard[i].sent++
		}
	}
}

// Boxes and models that are handed the same answer the same.
func TestThrownCalls(t *testing.T) {
	g := &dice{x: 13}
	told, silent, wrong, along := 0, 0, 0, [5]int{}
	for run := range 500 {
		self := run % api.MaxNodes
		b, m := of(t, self), &model{self: self}
		now := 0
		for range 200 {
			if g.below(2) == 0 {
				l := g.peers(3)
				if g.below(8) == 0 {
					l = append(l, wrongPeers()[g.below(len(wrongPeers()))])
					l = append(l, g.peers(1)...)
				}
				want := m.hear(l)
				if got := b.Hear(l); got != want {
					t.Fatalf("Hear(%v): %v, want %v", l, got, want)
				}
				if want != api.OK {
					wrong++
				}
			} else {
				now += g.from(0, 1, 50, 99, 100, 100, 101, 500)
				at := now - g.from(0, 0, 0, 0, 1, 100, 1<<62)
				others := g.others(4)
				m.tick(at, some(), others)
				got := b.Tick(at, some(), others)
				if m.silent {
					silent++
				} else {
					told++
					along[len(m.message.Peers)]++
				}
				if m.silent && len(got) != 0 || !m.silent && (len(got) != 1 || !same(got[0], m.message)) {
					t.Fatalf("run %d: Tick(%d, .., %v) = %v, want %v (none: %v)", run, at, others, got, m.message, m.silent)
				}
			}
			b.has(m.rumours()...)
			if t.Failed() {
				t.Fatalf("in run %d, at %d", run, now)
			}
		}
	}
	if told < 5000 || silent < 5000 || wrong < 500 || slices.Min(along[:]) < 100 {
		t.Errorf("only %d messages, %d times none, %d refused; by rumours: %v", told, silent, wrong, along)
	}
}
