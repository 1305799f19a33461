package swim_test

import (
	"math"
	"slices"
	"testing"

	"trolley/api"
	"trolley/swim"
)

func reqs() []int { return []int{math.MinInt, -1, 0, 1, 77, api.MaxReq, api.MaxReq + 1, math.MaxInt} }

func TestP12_5APingIsAnswered(t *testing.T) {
	s := of(t, 3, 5)
	for _, req := range reqs() {
		for _, owner := range []int{-1, 3} {
			for n := range api.MaxNodes {
				s.takes(ping(5, 3, req, owner, n), 0, msgs(pong(3, 5, req, 3, n)))
			}
			for _, n := range wrongNodes() {
				s.takes(ping(5, 3, req, owner, n), 0, msgs(pong(3, 5, req, 3, -1)))
			}
		}
	}
}

func TestP12_5APingForAnotherOne(t *testing.T) {
	s := of(t, 3, 5)
	for _, req := range reqs() {
		for owner := range api.MaxNodes {
			if owner == 3 {
				continue
			}
			for _, n := range append(wrongNodes(), 0, 3, 5, 7) {
				s.takes(ping(5, 3, req, owner, n), 0, msgs(ping(3, owner, req, -1, 5))) // whether it is known or not
			}
		}
	}
	for _, owner := range wrongNodes() {
		if owner != -1 {
			s.takes(ping(5, 3, 1, owner, -1), 0, nil)
		}
	}
	s.knows(peer(3, 0, alive), peer(5, 0, alive))
}

func TestP12_5APongForAnotherOne(t *testing.T) {
	s := of(t, 3, 5)
	s.ticks(0, msgs(direct(3, 5, 1)))
	for _, req := range reqs() {
		for n := range api.MaxNodes {
			for _, owner := range append(wrongNodes(), 0, 3, 5, 7) {
				if n != 3 {
					s.takes(pong(5, 3, req, owner, n), 0, msgs(pong(3, n, req, owner, -1)))
				}
			}
		}
	}
	for _, n := range wrongNodes() {
		if n != -1 {
			s.takes(pong(5, 3, 1, 5, n), 0, nil)
		}
	}
	s.waits(50, nil)
	s.waits(100, msgs(direct(3, 5, 2)), peer(5, 0, suspect)) // none of them was the answer
}

func TestP12_5APongEndsAPing(t *testing.T) {
	for _, n := range []int{-1, 3} {
		for from := range api.MaxNodes {
			if from == 3 {
				continue
			}
			s := of(t, 3, 0, 1, 2, 4, 5, 6, 7)
			s.ticks(0, msgs(direct(3, 0, 1)))
			s.takes(pong(from, 3, 1, 0, n), 49, nil) // whoever it is from
			s.ticks(50, nil)
			s.ticks(100, msgs(direct(3, 1, 2)))
			s.takes(pong(from, 3, 2, 1, n), 149, nil)
			s.takes(pong(from, 3, 2, 1, n), 149, nil) // once more
			s.ticks(10000, msgs(direct(3, 2, 3)))
			s.knows(peer(0, 0, alive), peer(1, 0, alive), peer(2, 0, alive), peer(3, 0, alive), peer(4, 0, alive), peer(5, 0, alive), peer(6, 0, alive), peer(7, 0, alive))
		}
	}
	// It may come behind others were asked.
	s := of(t, 3, 0, 1)
	s.ticks(0, msgs(direct(3, 0, 1)))
	s.ticks(50, msgs(ping(3, 1, 1, 0, -1)))
	s.takes(pong(1, 3, 1, 0, -1), 99, nil)
	s.ticks(100, msgs(direct(3, 1, 2)))
	s.ticks(149, nil)
	s.knows(peer(0, 0, alive), peer(1, 0, alive), peer(3, 0, alive))
}

// Only one that is open, of that target and that number, ends.
func TestP12_5PongsOfNoPing(t *testing.T) {
	s := of(t, 3, 0, 1)
	s.takes(pong(0, 3, 1, 0, -1), 0, nil) // ahead of the ping
	s.ticks(0, msgs(direct(3, 0, 1)))
	for _, owner := range append(wrongNodes(), 1, 2, 3, 7) {
		s.takes(pong(0, 3, 1, owner, -1), 0, nil)
	}
	for _, req := range reqs() {
		if req != 1 {
			s.takes(pong(0, 3, req, 0, -1), 0, nil)
			s.takes(pong(0, 3, req, 0, 3), 0, nil)
		}
	}
	s.waits(50, msgs(ping(3, 1, 1, 0, -1)))
	s.waits(100, msgs(direct(3, 1, 2)), peer(0, 0, suspect))
	s.takes(pong(0, 3, 1, 0, -1), 100, nil) // too late
	s.knows(peer(0, 0, suspect), peer(1, 0, alive), peer(3, 0, alive))
	// Of two that are open the other one goes on.
	s = of(t, 3, 0, 1)
	s.ticks(0, msgs(direct(3, 0, 1)))
	s.ticks(100, msgs(ping(3, 1, 1, 0, -1), direct(3, 1, 2)))
	s.takes(pong(1, 3, 2, 1, -1), 100, nil)
	s.ticks(149, nil)
	s.ticks(150, nil, peer(0, 0, suspect))
}

func TestP12_5WhoIsNotKnown(t *testing.T) {
	for from := range api.MaxNodes {
		if from == 3 {
			continue
		}
		for _, m := range msgs(direct(from, 3, 1), ping(from, 3, 1, 99, -1), pong(from, 3, 1, 2, -1), pong(from, 3, 1, 2, 99)) {
			s := of(t, 3)
			if _, told := s.On(m, 10); !slices.Equal(told, peers(peer(from, 0, alive))) {
				t.Errorf("%v: %v told", m, told)
			}
			if _, told := s.On(m, 10); told != nil {
				t.Errorf("%v once more: %v told", m, told)
			}
			want := peers(peer(from, 0, alive), peer(3, 0, alive))
			if from > 3 {
				slices.Reverse(want)
			}
			s.knows(want...)
		}
	}
	// What is known already stays, and who is suspected or dead is so still.
	for _, p := range peers(peer(5, 0, suspect), peer(5, 0, dead), peer(5, 9, alive), peer(5, 9, suspect)) {
		s := of(t, 3)
		s.hears(0, peers(p), p)
		s.takes(direct(5, 3, 1), 10, msgs(pong(3, 5, 1, 3, -1)))
		s.takes(pong(5, 3, 1, 5, -1), 10, nil)
		s.knows(peer(3, 0, alive), p)
	}
	// A suspicion's time is not that of a message.
	s := of(t, 3)
	s.hears(0, peers(peer(5, 0, suspect)), peer(5, 0, suspect))
	s.Tick(0)
	s.takes(pong(5, 3, 1, 5, -1), 200, nil)
	s.ticks(299, msgs(direct(3, 5, 2)))
	s.ticks(300, nil, peer(5, 0, dead))
}

func TestP12_5Nothing(t *testing.T) {
	s := of(t, 3, 5)
	s.ticks(0, msgs(direct(3, 5, 1)))
	for kind := -2; kind < api.NumMsgs+3; kind++ {
		for _, from := range append(wrongNodes(), 0, 1, 2, 3, 4, 5, 6, 7) {
			for _, owner := range []int{-1, 0, 3, 5} {
				for _, n := range []int{-1, 0, 3, 5} {
					known := from >= 0 && from < api.MaxNodes && from != 3
					if known && (kind == api.MsgPing || kind == api.MsgPong) {
						continue
					}
					m := api.Msg{Kind: kind, From: from, To: 3, Req: 1, Owner: owner, N: n, Peers: peers(peer(5, 0, dead), peer(6, 0, alive))}
					s.takes(m, 0, nil)
				}
			}
		}
	}
	s.knows(peer(3, 0, alive), peer(5, 0, alive))
	s.waits(50, nil)
	s.waits(100, msgs(direct(3, 5, 2)), peer(5, 0, suspect))
}

// Whom a message is for plays no part, nor does what a ping does not hold.
func TestP12_5OtherFields(t *testing.T) {
	s := of(t, 3, 5)
	for _, to := range append(wrongNodes(), 0, 3, 7) {
		full := api.Msg{Kind: api.MsgPing, From: 5, To: to, Req: 4, Key: "k", Cart: api.Cart{Entries: []api.Entry{{Item: "milk"}}}, Owner: -1, Part: 3, N: 2,
			Ring: api.Ring{Parts: 8, Members: []api.Member{{Node: 1}}}, Peers: peers(peer(6, 0, alive)), Sums: []api.Sum{{Key: "k"}}}
		s.takes(full, 0, msgs(pong(3, 5, 4, 3, 2)))
		full.Owner = 1
		s.takes(full, 0, msgs(ping(3, 1, 4, -1, 5)))
		full.Kind = api.MsgPong
		s.takes(full, 0, msgs(pong(3, 2, 4, 1, -1)))
	}
	s.knows(peer(3, 0, alive), peer(5, 0, alive))
}

func TestP12_6NoTable(t *testing.T) {
	for name, s := range map[string]*swim.Table{"nil": nil, "plain": {}, "new": new(swim.Table)} {
		for now := range 500 {
			told := s.Hear(peers(peer(0, 0, dead), peer(1, 0, alive), peer(0, 3, alive)), now)
			sent, news := s.Tick(now)
			pinged, more := s.On(direct(1, 0, 1), now)
			ponged, most := s.On(pong(1, 0, 1, 2, 3), now)
			if told != nil || sent != nil || news != nil || pinged != nil || more != nil || ponged != nil || most != nil {
				t.Fatalf("%s: it is no table", name)
			}
		}
		for _, node := range append(wrongNodes(), 0, 1, 7) {
			if s.Peers() != nil || s.Status(node) != 0 || s.Up(node) {
				t.Errorf("%s: it is no table", name)
			}
		}
	}
}

// Nothing that is handed in is changed or kept, no two answers share their memory, and no two tables anything.
func TestMemory(t *testing.T) {
	s, other := of(t, 0), of(t, 0)
	heard := append(make([]api.Peer, 0, 9), peer(1, 0, alive), peer(2, 0, suspect), peer(3, 0, suspect))
	was := slices.Clone(heard[:9])
	spoil := func(l []api.Peer) {
		for i := range l[:cap(l)] {
			l[:cap(l)][i] = peer(-7, -7, -7)
		}
	}
	told := s.Hear(heard, 0)
	if !slices.Equal(heard[:9], was) {
		t.Errorf("what was handed in is %v", heard[:9])
	}
	known := s.Peers()
	spoil(told)
	spoil(heard)
	spoil(known)
	s.knows(peer(0, 0, alive), peer(1, 0, alive), peer(2, 0, suspect), peer(3, 0, suspect))
	other.knows(peer(0, 0, alive))
	sent, died := s.Tick(300)
	if len(sent) != 1 || len(died) != 2 {
		t.Fatalf("%v, %v", brief(sent), died)
	}
	for i := range sent[:cap(sent)] {
		sent[:cap(sent)][i] = api.Msg{Req: -7}
	}
	spoil(died)
	s.takes(ping(1, 0, 1, -1, -1), 300, msgs(pong(0, 1, 1, 0, -1)))
	s.knows(peer(0, 0, alive), peer(1, 0, alive), peer(2, 0, dead), peer(3, 0, dead))
	s.waits(350, nil)
	s.waits(400, msgs(direct(0, 2, 2)), peer(1, 0, suspect))
	other.ticks(400, nil)
}

func TestExamplesOfTheDocument(t *testing.T) {
	s := of(t, 0)
	s.hears(0, peers(peer(1, 0, alive)), peer(1, 0, alive))
	s.ticks(0, msgs(direct(0, 1, 1)))
	s.ticks(50, nil)
	s.ticks(100, msgs(direct(0, 1, 2)), peer(1, 0, suspect))
	s = of(t, 0, 1)
	s.hears(0, peers(peer(0, 0, suspect)), peer(0, 1, alive))
	s.hears(0, peers(peer(1, 0, alive)))
	s = of(t, 0, 1, 2)
	s.takes(ping(2, 0, 1, 1, -1), 0, msgs(ping(0, 1, 1, -1, 2)))
	s.takes(pong(1, 0, 1, 1, 2), 0, msgs(pong(0, 2, 1, 1, -1)))
}

// Of three nodes two do not reach one another: by way of the third one each of them answers the other.
func TestPingsByWayOfAnotherOne(t *testing.T) {
	all := []table{of(t, 0, 1, 2), of(t, 1, 0, 2), of(t, 2, 0, 1)}
	passed := 0
	for now := range 5000 {
		var way []api.Msg
		for _, s := range all {
			sent, told := s.Tick(now)
			if told != nil {
				t.Fatalf("at %d: %v", now, told)
			}
			way = append(way, sent...)
		}
		for len(way) > 0 {
			m := way[0]
			way = way[1:]
			if m.From+m.To == 1 { // from 0 to 1, or back
				continue
			}
			sent, told := all[m.To].On(m, now)
			if told != nil {
				t.Fatalf("at %d, on %v: %v", now, brief(msgs(m)), told)
			}
			if m.Kind == api.MsgPong && m.N != -1 {
				passed++
			}
			way = append(way, sent...)
		}
	}
	if passed < 20 {
		t.Errorf("%d answers were passed on", passed)
	}
}
