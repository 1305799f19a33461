package swim_test

import (
	"math"
	"slices"
	"testing"

	"trolley/api"
	"trolley/swim"
)

func greater(t *testing.T, a, b api.Peer, want bool) {
	t.Helper()
	if swim.Greater(a, b) != want {
		t.Errorf("Greater(%v, %v) is %v", a, b, !want)
	}
}

func TestP12_1Greater(t *testing.T) {
	rising := peers(
		peer(3, 0, alive), peer(3, 0, suspect), peer(3, 0, dead), peer(3, 1, alive), peer(3, 1, suspect), peer(3, 1, dead), peer(3, 2, alive),
		peer(3, api.MaxInc-1, dead), peer(3, api.MaxInc, alive), peer(3, api.MaxInc, suspect), peer(3, api.MaxInc, dead),
	)
	for i, a := range rising {
		for j, b := range rising {
			greater(t, a, b, i > j)
			b.Node = 4
			greater(t, a, b, false)
			greater(t, b, a, false)
		}
	}
	// It holds numbers against each other, whatever they are.
	greater(t, peer(-5, math.MaxInt, 0), peer(-5, math.MinInt, 0), true)
	greater(t, peer(-5, math.MinInt, 0), peer(-5, math.MaxInt, 0), false)
	greater(t, peer(99, 0, math.MaxInt), peer(99, 0, math.MinInt), true)
	greater(t, peer(99, 0, math.MinInt), peer(99, 0, math.MaxInt), false)
	greater(t, peer(math.MaxInt, 1, 1), peer(math.MinInt, 0, 0), false)
}

func TestP12_2New(t *testing.T) {
	for _, self := range wrongNodes() {
		if s, e := swim.New(self); s != nil || e != api.ErrArg {
			t.Errorf("New(%d): %v, %v", self, s, e)
		}
	}
	for self := range api.MaxNodes {
		s := of(t, self)
		s.knows(peer(self, 0, alive))
		s.ticks(0, nil)
		s.knows(peer(self, 0, alive))
	}
}

func TestP12_2PeersAndStatus(t *testing.T) {
	s := of(t, 3)
	l := peers(peer(7, 2, dead), peer(5, 0, suspect), peer(0, 9, alive), peer(1, 0, dead), peer(6, api.MaxInc, alive))
	s.hears(0, l, l...)
	s.knows(peer(0, 9, alive), peer(1, 0, dead), peer(3, 0, alive), peer(5, 0, suspect), peer(6, api.MaxInc, alive), peer(7, 2, dead))
	for _, node := range append(wrongNodes(), 2, 4) {
		if s.Status(node) != 0 || s.Up(node) {
			t.Errorf("Status(%d) = %d, Up %v", node, s.Status(node), s.Up(node))
		}
	}
}

// A time counts as the greatest so far, by whatever call that was handed in.
func TestP12_2TimesThatGoBack(t *testing.T) {
	calls := map[string]func(table){
		"Hear":                      func(s table) { s.Hear(nil, 1000) },
		"Hear of a wrong one":       func(s table) { s.Hear(peers(api.Peer{}), 1000) },
		"Tick":                      func(s table) { s.Tick(1000) },
		"On":                        func(s table) { s.On(direct(2, 0, 1), 1000) },
		"On of another kind":        func(s table) { s.On(api.Msg{Kind: api.MsgGossip, From: 2}, 1000) },
		"On of one from nobody":     func(s table) { s.On(direct(-1, 0, 1), 1000) },
		"On of one from the table":  func(s table) { s.On(direct(0, 0, 1), 1000) },
		"On of one for who is none": func(s table) { s.On(ping(2, 0, 1, 99, -1), 1000) },
	}
	for name, call := range calls {
		for _, late := range []int{0, 999, -1, math.MinInt} {
			s := of(t, 0, 2)
			s.hears(0, peers(peer(1, 0, suspect)), peer(1, 0, suspect))
			call(s)
			s.Tick(late) // which is 1000, so that 1 is dead
			if s.Status(1) != dead {
				t.Errorf("%s: 1000 is forgotten at %d", name, late)
			}
		}
	}
	for _, late := range []int{math.MinInt, -300, -1} { // they are 0
		s := of(t, 0)
		s.ticks(late, nil)
		s.hears(late, peers(peer(1, 0, suspect)), peer(1, 0, suspect))
		s.ticks(late, msgs(direct(0, 1, 1)))
		s.ticks(99, nil)
		s.ticks(299, msgs(direct(0, 1, 2)))
		s.ticks(300, nil, peer(1, 0, dead))
	}
}

func TestP12_2HugeTimes(t *testing.T) {
	s := of(t, 0, 1)
	s.ticks(math.MinInt, msgs(direct(0, 1, 1)))
	s.ticks(math.MaxInt, nil)
	s.hears(math.MaxInt, peers(peer(1, 0, suspect)), peer(1, 0, suspect))
	for _, now := range []int{math.MaxInt, 0, math.MinInt} { // time stands still
		s.ticks(now, nil)
	}
	s.knows(peer(0, 0, alive), peer(1, 0, suspect))
}

func TestP12_3HearOfOthers(t *testing.T) {
	s := of(t, 0)
	for _, p := range peers(peer(1, 0, alive), peer(1, 0, suspect), peer(1, 0, dead), peer(1, 1, alive), peer(1, 5, suspect), peer(1, api.MaxInc, alive), peer(1, api.MaxInc, dead)) {
		s.hears(0, peers(p), p)
		s.knows(peer(0, 0, alive), p)
		s.hears(0, peers(p))
		for _, older := range peers(peer(1, 0, alive), peer(1, p.Inc, p.Status-1), peer(1, p.Inc-1, dead)) {
			s.hears(0, peers(older))
			s.knows(peer(0, 0, alive), p)
		}
	}
	// One that is not known may be heard of first as anything.
	for status := alive; status <= dead; status++ {
		for _, inc := range []int{0, 7, api.MaxInc} {
			s := of(t, 7)
			s.hears(0, peers(peer(2, inc, status)), peer(2, inc, status))
			s.knows(peer(2, inc, status), peer(7, 0, alive))
		}
	}
}

func TestP12_3TellsInOrder(t *testing.T) {
	s := of(t, 4)
	s.hears(0, nil)
	s.hears(0, []api.Peer{})
	s.hears(0,
		peers(peer(6, 0, alive), peer(1, 3, dead), peer(6, 0, alive), peer(4, 2, suspect), peer(6, 0, suspect), peer(4, 9, alive), peer(1, 3, suspect), peer(4, 9, dead), peer(0, 0, alive), peer(4, 9, dead)),
		peer(6, 0, alive), peer(1, 3, dead), peer(4, 3, alive), peer(6, 0, suspect), peer(4, 10, alive), peer(0, 0, alive),
	)
	s.knows(peer(0, 0, alive), peer(1, 3, dead), peer(4, 10, alive), peer(6, 0, suspect))
}

func TestP12_3HearOfSelf(t *testing.T) {
	for self := range api.MaxNodes {
		for _, status := range []int{suspect, dead} {
			s := of(t, self)
			s.hears(0, peers(peer(self, 0, status)), peer(self, 1, alive))
			s.hears(0, peers(peer(self, 0, status))) // that is contradicted already
			s.hears(0, peers(peer(self, 1, status)), peer(self, 2, alive))
			s.hears(0, peers(peer(self, 9, status)), peer(self, 10, alive))
			s.hears(0, peers(peer(self, 9, status)))
			s.knows(peer(self, 10, alive))
			s.hears(0, peers(peer(self, 10, alive), peer(self, 9, alive))) // nothing new
			s.knows(peer(self, 10, alive))
			s.hears(0, peers(peer(self, 20, alive))) // greater, but not told
			s.knows(peer(self, 20, alive))
			s.hears(0, peers(peer(self, 19, status)))
			s.hears(0, peers(peer(self, 20, status)), peer(self, 21, alive))
		}
	}
}

func TestP12_3HearOfSelfAtMaxInc(t *testing.T) {
	for _, status := range []int{suspect, dead} {
		s := of(t, 2)
		s.hears(0, peers(peer(2, api.MaxInc, status))) // one more may not be
		s.knows(peer(2, 0, alive))
		s.hears(0, peers(peer(2, api.MaxInc-1, status)), peer(2, api.MaxInc, alive))
		s.knows(peer(2, api.MaxInc, alive))
		s.hears(0, peers(peer(2, api.MaxInc, status), peer(2, api.MaxInc-1, status), peer(2, api.MaxInc, alive)))
		s.knows(peer(2, api.MaxInc, alive))
		s = of(t, 2)
		s.hears(0, peers(peer(2, api.MaxInc, alive), peer(2, api.MaxInc, status)))
		s.knows(peer(2, api.MaxInc, alive))
	}
}

func TestP12_3WrongRumours(t *testing.T) {
	s := of(t, 0, 1)
	for _, p := range wrongPeers() {
		s.hears(0, peers(p))
		s.hears(0, peers(p, peer(1, 0, alive), p))
		s.knows(peer(0, 0, alive), peer(1, 0, alive))
	}
	l := slices.Concat(wrongPeers(), peers(peer(5, 0, alive)), wrongPeers(), peers(peer(5, 0, dead)), wrongPeers())
	s.hears(0, l, peer(5, 0, alive), peer(5, 0, dead))
	s.knows(peer(0, 0, alive), peer(1, 0, alive), peer(5, 0, dead))
}

// What is heard is known since then: a newer rumour of one who is suspected lets it wait again, an older one does not.
func TestP12_3SinceNow(t *testing.T) {
	s := of(t, 0)
	s.Tick(0)
	s.hears(40, peers(peer(1, 0, suspect)), peer(1, 0, suspect))
	s.hears(200, peers(peer(1, 0, suspect), peer(1, 0, alive)))
	s.hears(100, peers(peer(2, 0, suspect)), peer(2, 0, suspect)) // which is 200
	s.hears(240, peers(peer(1, 1, suspect)), peer(1, 1, suspect))
	for _, c := range []struct {
		now  int
		told []api.Peer
	}{{340, nil}, {499, nil}, {500, peers(peer(2, 0, dead))}, {539, nil}, {540, peers(peer(1, 1, dead))}, {5000, nil}} {
		if _, told := s.Tick(c.now); !slices.Equal(told, c.told) {
			t.Errorf("at %d: %v, want %v", c.now, told, c.told)
		}
	}
}

func TestP12_7AnOrder(t *testing.T) {
	var all []api.Peer
	for _, inc := range []int{0, 1, 2, 1 << 32, api.MaxInc - 1, api.MaxInc} {
		for status := alive; status <= dead; status++ {
			all = append(all, peer(5, inc, status))
		}
	}
	for _, a := range all {
		for _, b := range all {
			ab, ba := swim.Greater(a, b), swim.Greater(b, a)
			if a == b && (ab || ba) || a != b && ab == ba {
				t.Errorf("%v and %v: %v, %v", a, b, ab, ba)
			}
			for _, c := range all {
				if ab && swim.Greater(b, c) && !swim.Greater(a, c) {
					t.Errorf("%v, %v and %v: it does not go on", a, b, c)
				}
			}
		}
	}
}

// Tables of two nodes hear the same of the others, one of them in an order of its own, and often.
func TestP12_8AllTheSame(t *testing.T) {
	g := &dice{x: 128}
	for range 2000 {
		heard := slices.DeleteFunc(g.peers(30), func(p api.Peer) bool { return p.Node < 2 })
		a, b := of(t, 0), of(t, 1)
		for i, p := range heard {
			a.Hear(peers(p), i*10)
		}
		often := slices.Concat(heard, heard, heard[:len(heard)/2])
		for i := range often {
			j := i + g.below(len(often)-i)
			often[i], often[j] = often[j], often[i]
		}
		for len(often) > 0 {
			n := 1 + g.below(len(often))
			b.Hear(often[:n], g.below(100))
			often = often[n:]
		}
		want := append(peers(peer(0, 0, alive)), b.Peers()[1:]...)
		a.knows(want...)
		if t.Failed() {
			t.Fatalf("heard %v", heard)
		}
	}
}

// atLeast tells of each node what is known of it: it was not more.
func atLeast(t *testing.T, was, now []api.Peer) {
	t.Helper()
	for _, p := range was {
		i := slices.IndexFunc(now, func(q api.Peer) bool { return q.Node == p.Node })
		if i < 0 || now[i] != p && !swim.Greater(now[i], p) {
			t.Fatalf("%v became %v", was, now)
		}
	}
}

func TestP12_9NeverLess(t *testing.T) {
	g := &dice{x: 129}
	for run := range 200 {
		s := of(t, run%api.MaxNodes)
		now := 0
		for range 200 {
			was := s.Peers()
			now += g.from(0, 10, 50, 100, 300)
			switch g.below(4) {
			case 0:
				s.Hear(g.peers(4), now)
			case 1:
				s.On(g.msg(), now)
			default:
				s.Tick(now)
			}
			atLeast(t, was, s.Peers())
		}
	}
}

func TestP12_10Contradicted(t *testing.T) {
	g := &dice{x: 1210}
	for run := range 3000 {
		self := run % api.MaxNodes
		s := of(t, self)
		if g.below(2) > 0 {
			s.Hear(peers(peer(self, g.from(0, 1, 2, 5, api.MaxInc-1), 1+g.below(3))), 0)
		}
		p := peer(self, g.from(0, 1, 2, 3, 4, g.below(1<<30), api.MaxInc-2, api.MaxInc-1), g.from(suspect, dead))
		s.Hear(append(g.peers(2), p), 0)
		own := s.Peers()[slices.IndexFunc(s.Peers(), func(q api.Peer) bool { return q.Node == self })]
		if !swim.Greater(own, p) || own.Status != alive {
			t.Fatalf("%v, behind %v", own, p)
		}
	}
}
