package swim_test

import (
	"math"
	"reflect"
	"slices"
	"testing"

	"trolley/api"
	"trolley/swim"
)

const (
	alive   = api.PeerAlive
	suspect = api.PeerSuspect
	dead    = api.PeerDead
)

func peer(node, inc, status int) api.Peer { return api.Peer{Node: node, Inc: inc, Status: status} }

func peers(l ...api.Peer) []api.Peer { return l }

func msgs(l ...api.Msg) []api.Msg { return l }

func ping(from, to, req, owner, n int) api.Msg {
	return api.Msg{Kind: api.MsgPing, From: from, To: to, Req: req, Owner: owner, N: n}
}

func pong(from, to, req, owner, n int) api.Msg {
	return api.Msg{Kind: api.MsgPong, From: from, To: to, Req: req, Owner: owner, N: n}
}

// direct is a ping that is meant for the node that it goes to.
func direct(from, to, req int) api.Msg { return ping(from, to, req, -1, -1) }

func wrongNodes() []int {
	return []int{math.MinInt, -2, -1, api.MaxNodes, api.MaxNodes + 1, 1 << 32, math.MaxInt}
}

// wrongPeers are rumours that may not be, each for a reason of its own.
func wrongPeers() []api.Peer {
	l := []api.Peer{{}}
	for _, node := range wrongNodes() {
		l = append(l, peer(node, 0, alive), peer(node, 3, dead))
	}
	for node := range api.MaxNodes {
		for _, inc := range []int{math.MinInt, -1, api.MaxInc + 1, math.MaxInt} {
			l = append(l, peer(node, inc, alive), peer(node, inc, suspect))
		}
		for _, status := range []int{math.MinInt, -1, 0, dead + 1, math.MaxInt} {
			l = append(l, peer(node, 0, status), peer(node, 5, status))
		}
	}
	return l
}

// table is one whose answers are held against what they are to be.
type table struct {
	t *testing.T
	*swim.Table
}

// of is a table that has heard at 0 that some nodes are there.
func of(t *testing.T, self int, others ...int) table {
	t.Helper()
	made, e := swim.New(self)
	if e != api.OK || made == nil {
		t.Fatalf("New(%d): %v", self, e)
	}
	s := table{t, made}
	for _, node := range others {
		s.hears(0, peers(peer(node, 0, alive)), peer(node, 0, alive))
	}
	return s
}

func (s table) hears(now int, l []api.Peer, told ...api.Peer) {
	s.t.Helper()
	if got := s.Hear(l, now); !slices.Equal(got, told) {
		s.t.Errorf("Hear(%v, %d) = %v, want %v", l, now, got, told)
	}
}

func (s table) ticks(now int, sent []api.Msg, told ...api.Peer) {
	s.t.Helper()
	got, news := s.Tick(now)
	if !sameMsgs(got, sent) || !slices.Equal(news, told) {
		s.t.Errorf("Tick(%d) = %v, %v, want %v, %v", now, brief(got), news, brief(sent), told)
	}
}

func (s table) takes(m api.Msg, now int, sent []api.Msg, told ...api.Peer) {
	s.t.Helper()
	got, news := s.On(m, now)
	if !sameMsgs(got, sent) || !slices.Equal(news, told) {
		s.t.Errorf("On(%v, %d) = %v, %v, want %v, %v", m, now, brief(got), news, brief(sent), told)
	}
}

// knows tells what all is to be known, by whatever call tells it.
func (s table) knows(l ...api.Peer) {
	s.t.Helper()
	if got := s.Peers(); !slices.Equal(got, l) {
		s.t.Errorf("Peers() = %v, want %v", got, l)
	}
	status := [api.MaxNodes]int{}
	for _, p := range l {
		status[p.Node] = p.Status
	}
	for node, want := range status {
		if s.Status(node) != want || s.Up(node) != (want == alive || want == suspect) {
			s.t.Errorf("Status(%d) = %d, want %d; Up %v", node, s.Status(node), want, s.Up(node))
		}
	}
}

// sameMsgs takes an empty list as none, but within a message, where it is no zero value.
func sameMsgs(a, b []api.Msg) bool { return len(a) == 0 && len(b) == 0 || reflect.DeepEqual(a, b) }

// brief is what a message of a ping may hold.
func brief(l []api.Msg) [][6]int {
	var all [][6]int
	for _, m := range l {
		all = append(all, [6]int{m.Kind, m.From, m.To, m.Req, m.Owner, m.N})
	}
	return all
}

// dice are numbers that look thrown, the same ones each time.
type dice struct{ x uint64 }

func (g *dice) below(n int) int {
	g.x = g.x*6364136223846793005 + 1442695040888963407
	return int(g.x >> 33 % uint64(n))
}

func (g *dice) from(l ...int) int { return l[g.below(len(l))] }

// peer is a rumour that may be, mostly with a small number.
func (g *dice) peer() api.Peer {
	return peer(g.below(api.MaxNodes), g.from(0, 0, 1, 1, 2, 3, 4, g.below(api.MaxInc), api.MaxInc), 1+g.below(3))
}

// anyPeer may be wrong too.
func (g *dice) anyPeer() api.Peer {
	if g.below(6) == 0 {
		l := wrongPeers()
		return l[g.below(len(l))]
	}
	return g.peer()
}

func (g *dice) peers(most int) []api.Peer {
	var l []api.Peer
	for range g.below(most + 1) {
		l = append(l, g.anyPeer())
	}
	return l
}

// node is one, or none.
func (g *dice) node() int {
	if l := wrongNodes(); g.below(8) == 0 {
		return l[g.below(len(l))]
	}
	return g.below(api.MaxNodes)
}

// msg is a message of any kind, mostly a ping or a pong, with a number of a few.
func (g *dice) msg() api.Msg {
	m := api.Msg{Kind: g.from(api.MsgPing, api.MsgPong), From: g.node(), To: g.node(), Req: g.below(30), Owner: g.from(-1, g.node()), N: g.from(-1, g.node())}
	switch g.below(20) {
	case 0:
		m.Kind = g.from(-1, 0, g.below(api.NumMsgs), api.NumMsgs, math.MaxInt)
	case 1:
		m.Req = g.from(math.MinInt, -1, 0, api.MaxReq, api.MaxReq+1, math.MaxInt)
	case 2:
		m.Key, m.Part, m.Peers, m.Sums = "k", 3, g.peers(3), []api.Sum{{Key: "k"}}
	}
	return m
}
