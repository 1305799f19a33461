package swim_test

import (
	"slices"
	"testing"

	"trolley/api"
)

// waits is what a Tick sends, or tells, just at a time, and not by one less.
func (s table) waits(until int, sent []api.Msg, told ...api.Peer) {
	s.t.Helper()
	s.ticks(until-1, nil)
	s.ticks(until, sent, told...)
}

func TestP12_4SuspectedForTooLong(t *testing.T) {
	s := of(t, 3)
	s.hears(7, peers(peer(5, 2, suspect), peer(0, 0, suspect), peer(4, 0, dead)), peer(5, 2, suspect), peer(0, 0, suspect), peer(4, 0, dead))
	for now := range 307 {
		if _, told := s.Tick(now); told != nil {
			t.Fatalf("at %d: %v", now, told)
		}
	}
	if _, told := s.Tick(307); !slices.Equal(told, peers(peer(0, 0, dead), peer(5, 2, dead))) { // rising, with their Inc
		t.Errorf("at 307: %v", told)
	}
	s.knows(peer(0, 0, dead), peer(3, 0, alive), peer(4, 0, dead), peer(5, 2, dead))
	if _, told := s.Tick(10000); told != nil {
		t.Errorf("dead once more: %v", told)
	}
	// Much later it is so too.
	s = of(t, 3)
	s.hears(0, peers(peer(1, 0, suspect)), peer(1, 0, suspect))
	s.ticks(1<<40, msgs(direct(3, 1, 1)), peer(1, 0, dead))
}

func TestP12_4OthersAreAsked(t *testing.T) {
	s := of(t, 0, 1, 2, 3, 4)
	s.ticks(5, msgs(direct(0, 1, 1)))
	s.waits(55, msgs(ping(0, 2, 1, 1, -1), ping(0, 3, 1, 1, -1)))
	s.knows(peer(0, 0, alive), peer(1, 0, alive), peer(2, 0, alive), peer(3, 0, alive), peer(4, 0, alive))
	s.waits(105, msgs(direct(0, 2, 2)), peer(1, 0, suspect))
	s.waits(155, msgs(ping(0, 3, 2, 2, -1), ping(0, 4, 2, 2, -1))) // 1 is suspected, and not asked
	s.waits(205, msgs(direct(0, 3, 3)), peer(2, 0, suspect))
	s.waits(255, msgs(ping(0, 4, 3, 3, -1))) // there is but one
	s.waits(305, msgs(direct(0, 4, 4)), peer(3, 0, suspect))
	s.waits(355, nil) // there is none
	s.waits(405, msgs(direct(0, 1, 5)), peer(1, 0, dead), peer(4, 0, suspect))
}

// From then on it is waited for as long once more, when others were asked late.
func TestP12_4OthersAreAskedLate(t *testing.T) {
	s := of(t, 6, 1, 2)
	s.ticks(0, msgs(direct(6, 1, 1)))
	s.ticks(90, msgs(ping(6, 2, 1, 1, -1)))
	s.ticks(100, msgs(direct(6, 2, 2)))
	s.waits(140, nil, peer(1, 0, suspect))
	s.waits(150, msgs()) // nobody is alive beside the target
	s.waits(200, msgs(direct(6, 1, 3)), peer(2, 0, suspect))
}

// Asked are those that are alive, and nobody else; the lowest two of all but the table's own node and the target.
func TestP12_4WhoIsAsked(t *testing.T) {
	for _, c := range []struct {
		self   int
		others []api.Peer
		target int
		asked  []int
	}{
		{0, peers(peer(1, 0, alive)), 1, nil},
		{0, peers(peer(1, 0, alive), peer(2, 0, suspect), peer(3, 0, dead)), 1, nil},
		{0, peers(peer(1, 0, alive), peer(2, 0, suspect), peer(3, 0, alive), peer(4, 0, dead), peer(5, 7, alive), peer(6, 0, alive)), 1, []int{3, 5}},
		{1, peers(peer(0, 0, alive), peer(2, 0, alive), peer(3, 0, alive)), 0, []int{2, 3}},
		{7, peers(peer(6, 0, alive), peer(5, 0, alive), peer(4, 0, alive)), 4, []int{5, 6}},
		{2, peers(peer(0, 0, dead), peer(7, 0, alive)), 0, []int{7}},    // of one that is dead too
		{2, peers(peer(1, 0, suspect), peer(7, 9, alive)), 1, []int{7}}, // or suspected
		{3, peers(peer(0, 0, suspect), peer(1, 0, dead)), 0, nil},       // nobody is
		{5, peers(peer(6, 0, alive), peer(7, 0, suspect)), 6, nil},      // one is no more
		{0, peers(peer(1, 3, dead), peer(2, 0, alive)), 1, []int{2}},    //
		{0, peers(peer(1, 3, dead), peer(2, api.MaxInc, dead)), 1, nil}, //
		{4, peers(peer(3, 0, alive), peer(5, api.MaxInc, alive)), 3, []int{5}},
	} {
		s := of(t, c.self)
		s.hears(0, c.others, c.others...)
		s.ticks(0, msgs(direct(c.self, c.target, 1)))
		var want []api.Msg
		for _, node := range c.asked {
			want = append(want, ping(c.self, node, 1, c.target, -1))
		}
		s.waits(50, want)
	}
}

// Of one that is not alive any more nothing is told when its ping ends.
func TestP12_4SuspectedOnlyIfAlive(t *testing.T) {
	for _, status := range []int{suspect, dead} {
		s := of(t, 0, 1)
		s.ticks(0, msgs(direct(0, 1, 1)))
		s.ticks(50, nil)
		s.hears(60, peers(peer(1, 4, status)), peer(1, 4, status))
		s.waits(100, msgs(direct(0, 1, 2)))
		s.knows(peer(0, 0, alive), peer(1, 4, status))
	}
	s := of(t, 0, 1)
	s.ticks(0, msgs(direct(0, 1, 1)))
	s.hears(60, peers(peer(1, 4, alive)), peer(1, 4, alive))
	s.ticks(60, nil)
	s.waits(110, msgs(direct(0, 1, 2)), peer(1, 4, suspect)) // Inc as it is
}

// Several are open: they are gone through in the order in which they began, and one that is suspected is not asked any more.
func TestP12_4SeveralPings(t *testing.T) {
	s := of(t, 0, 1, 2, 3, 5)
	s.ticks(0, msgs(direct(0, 1, 1)))
	s.ticks(100, msgs(ping(0, 2, 1, 1, -1), ping(0, 3, 1, 1, -1), direct(0, 2, 2)))
	s.ticks(149, nil)
	s.ticks(200, msgs(ping(0, 3, 2, 2, -1), ping(0, 5, 2, 2, -1), direct(0, 3, 3)), peer(1, 0, suspect))
	s.ticks(300, msgs(ping(0, 5, 3, 3, -1), direct(0, 5, 4)), peer(2, 0, suspect))
	s.ticks(500, msgs(direct(0, 1, 5)), peer(1, 0, dead), peer(3, 0, suspect)) // 5, the last one, has nobody to ask
	s.ticks(600, msgs(direct(0, 2, 6)), peer(2, 0, dead), peer(5, 0, suspect))
	s.knows(peer(0, 0, alive), peer(1, 0, dead), peer(2, 0, dead), peer(3, 0, suspect), peer(5, 0, suspect))
}

func TestP12_4TheOrderOfPings(t *testing.T) {
	s := of(t, 4, 6, 7)
	s.ticks(0, msgs(direct(4, 6, 1)))
	s.ticks(100, msgs(ping(4, 7, 1, 6, -1), direct(4, 7, 2)))
	s.takes(pong(6, 4, 1, 6, -1), 100, nil)
	s.ticks(200, msgs(ping(4, 6, 2, 7, -1), direct(4, 6, 3)))
	s.hears(200, peers(peer(0, 0, alive)), peer(0, 0, alive))
	s.ticks(300, msgs(ping(4, 0, 3, 6, -1), direct(4, 7, 4)), peer(7, 0, suspect)) // 2 ends ahead of 3, though its target is above
	s.ticks(400, msgs(ping(4, 0, 4, 7, -1), direct(4, 0, 5)), peer(6, 0, suspect))
}

func TestP12_4NextTarget(t *testing.T) {
	s := of(t, 3, 5, 0, 7)
	for i, target := range []int{0, 5, 7, 0, 5, 7, 0} {
		now := 100 * i
		if i > 0 {
			s.ticks(now-1, nil)
		}
		s.ticks(now, msgs(direct(3, target, i+1)))
		s.takes(pong(target, 3, i+1, target, -1), now, nil)
	}
	// Who comes to be known in between has its turn, whatever it is.
	s.hears(600, peers(peer(1, 0, dead), peer(6, 0, suspect)), peer(1, 0, dead), peer(6, 0, suspect))
	for i, target := range []int{1, 5, 6} {
		req := 8 + i
		if sent, _ := s.Tick(700 + 100*i); !sameMsgs(sent, msgs(direct(3, target, req))) {
			t.Errorf("%v, want a ping to %d", brief(sent), target)
		}
		s.takes(pong(target, 3, req, target, -1), 700+100*i, nil)
	}
}

// A node with an open ping is left out.
func TestP12_4OpenPingsAreLeftOut(t *testing.T) {
	s := of(t, 0, 1, 2)
	s.ticks(0, msgs(direct(0, 1, 1)))
	s.ticks(100, msgs(ping(0, 2, 1, 1, -1), direct(0, 2, 2)))
	s.takes(pong(2, 0, 2, 2, -1), 100, nil)
	s.ticks(149, nil)
	s.hears(149, peers(peer(3, 0, alive)), peer(3, 0, alive))
	s.ticks(200, msgs(direct(0, 3, 3)), peer(1, 0, suspect))
	s.takes(pong(3, 0, 3, 3, -1), 200, nil)
	s.ticks(300, msgs(direct(0, 1, 4)))
	s.ticks(420, msgs(ping(0, 2, 4, 1, -1), ping(0, 3, 4, 1, -1), direct(0, 2, 5)))
	s.takes(pong(2, 0, 5, 2, -1), 420, nil)
	s.takes(pong(3, 0, 5, 3, -1), 420, nil) // no such one is open
	s.ticks(469, nil)
	s.hears(469, peers(peer(1, 1, alive)), peer(1, 1, alive))
	s.ticks(520, msgs(direct(0, 3, 6)), peer(1, 1, suspect))
	s.ticks(540, nil)
}

// Where all others have open pings nothing is begun, and the time of the last one stands: one begins as soon as there is a target.
func TestP12_4WithoutATarget(t *testing.T) {
	s := of(t, 0, 4)
	s.ticks(0, msgs(direct(0, 4, 1)))
	s.ticks(99, nil)
	s.ticks(100, nil) // 4 is waited for still
	s.ticks(120, nil)
	s.hears(130, peers(peer(2, 0, dead)), peer(2, 0, dead))
	s.ticks(130, msgs(direct(0, 2, 2)))
	s.ticks(149, nil, peer(4, 0, suspect)) // 50 behind 99
	s.ticks(229, nil)
	s.ticks(230, msgs(direct(0, 4, 3)))
	// At first too.
	s = of(t, 5)
	for _, now := range []int{0, 50, 1000} {
		s.ticks(now, nil)
	}
	s.hears(1001, peers(peer(7, 0, alive), peer(6, 0, alive)), peer(7, 0, alive), peer(6, 0, alive))
	s.ticks(1001, msgs(direct(5, 6, 1)))
	s.waits(1051, msgs(ping(5, 7, 1, 6, -1)))
	s.waits(1101, msgs(direct(5, 7, 2)), peer(6, 0, suspect))
}

func TestP12_4BehindMaxReq(t *testing.T) {
	s := of(t, 0, 1)
	s.Begun(api.MaxReq - 2)
	s.ticks(100, msgs(direct(0, 1, api.MaxReq-1)))
	s.takes(pong(1, 0, api.MaxReq-1, 1, -1), 100, nil)
	s.ticks(200, msgs(direct(0, 1, api.MaxReq)))
	s.hears(200, peers(peer(2, 0, alive)), peer(2, 0, alive))
	s.ticks(250, msgs(ping(0, 2, api.MaxReq, 1, -1))) // what is open goes on
	s.ticks(300, nil, peer(1, 0, suspect))
	s.ticks(600, nil, peer(1, 0, dead))
	for now := 700; now < 3000; now += 100 {
		s.ticks(now, nil)
	}
	s.knows(peer(0, 0, alive), peer(1, 0, dead), peer(2, 0, alive))
}

// In one Tick all of it happens, in its order: who was suspected is dead, and is not asked; a ping that ends frees its target.
func TestP12_4InOrder(t *testing.T) {
	s := of(t, 1, 0, 2, 3)
	s.ticks(0, msgs(direct(1, 0, 1)))
	s.hears(0, peers(peer(3, 0, suspect)), peer(3, 0, suspect))
	s.ticks(50, msgs(ping(1, 2, 1, 0, -1)))
	s.ticks(99, nil)
	s.ticks(300, msgs(direct(1, 2, 2)), peer(3, 0, dead), peer(0, 0, suspect))
	s.ticks(400, msgs(direct(1, 3, 3)))
	s.ticks(600, msgs(direct(1, 0, 4)), peer(0, 0, dead), peer(2, 0, suspect))
}

func TestP12_11WhoAnswersIsNotSuspected(t *testing.T) {
	g := &dice{x: 1211}
	for range 300 {
		self := g.below(api.MaxNodes)
		var others []int
		for node := range api.MaxNodes {
			if node != self && g.below(3) > 0 {
				others = append(others, node)
			}
		}
		s := of(t, self, others...)
		answers := map[int][]api.Msg{} // by the time at which they come
		now, pings := 0, 0
		for now < 5000 {
			sent, told := s.Tick(now)
			if told != nil {
				t.Fatalf("at %d: %v", now, told)
			}
			for _, m := range sent {
				if m.Owner != -1 {
					t.Fatalf("at %d others are asked: %v", now, m)
				}
				at := now + g.from(0, 1, 48, 49, g.below(50))
				answers[at] = append(answers[at], pong(m.To, self, m.Req, m.To, -1))
				pings++
			}
			for step := g.from(0, 1, 1, 7, 49, 50, 51, 99, 100, 101, 350); step >= 0; step-- {
				for _, m := range answers[now] {
					if _, told := s.On(m, now); told != nil {
						t.Fatalf("at %d: %v", now, told)
					}
				}
				delete(answers, now)
				if step > 0 {
					now++
				}
			}
		}
		if len(others) > 0 && pings < 20 {
			t.Fatalf("only %d pings", pings)
		}
		for _, p := range s.Peers() {
			if p.Status != alive {
				t.Fatalf("%v", s.Peers())
			}
		}
	}
}

func TestP12_12WhoDoesNotIsDead(t *testing.T) {
	for _, first := range []int{0, 1, 77, 1000} {
		for other := range api.MaxNodes {
			self := (other + 3) % api.MaxNodes
			s := of(t, self)
			for now := range first {
				s.ticks(now, nil)
			}
			s.hears(first, peers(peer(other, 5, alive)), peer(other, 5, alive))
			pinged, suspected, died := -1, -1, -1
			for now := first; now < first+1000; now++ {
				sent, told := s.Tick(now)
				if pinged < 0 && len(sent) > 0 {
					pinged = now
				}
				for _, p := range told {
					switch p {
					case peer(other, 5, suspect):
						suspected = now
					case peer(other, 5, dead):
						died = now
					default:
						t.Fatalf("at %d: %v", now, p)
					}
				}
			}
			if pinged != first || suspected != pinged+100 || died != suspected+300 {
				t.Errorf("pinged at %d, suspected at %d, dead at %d", pinged, suspected, died)
			}
		}
	}
}
