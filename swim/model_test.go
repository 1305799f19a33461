package swim_test

import (
	"slices"
	"testing"

	"trolley/api"
)

// model is a table as the document says it, step by step.
type model struct {
	self, time  int
	known       map[int]api.Peer
	since       map[int]int
	open        []waiting
	began       bool
	count       int
	lastPing    int // when
	lastTarget  int
	msgs        []api.Msg
	told        []api.Peer
	asked, dead int // how often others were asked, how many died
}

type waiting struct {
	target, req, since int
	others             bool
}

func newModel(self int) *model {
	return &model{self: self, known: map[int]api.Peer{self: peer(self, 0, alive)}, since: map[int]int{self: 0}}
}

func (m *model) begin(now int) {
	if now > m.time {
		m.time = now
	}
	m.msgs, m.told = nil, nil
}

func (m *model) set(p api.Peer) { m.known[p.Node], m.since[p.Node] = p, m.time }

func (m *model) say(p api.Peer) {
	m.set(p)
	m.told = append(m.told, p)
}

func (m *model) send(x api.Msg) { m.msgs = append(m.msgs, x) }

func may(p api.Peer) bool {
	return p.Node >= 0 && p.Node <= 7 && p.Inc >= 0 && p.Inc <= 1<<40 && p.Status >= 1 && p.Status <= 3
}

func newer(a, b api.Peer) bool {
	if a.Inc != b.Inc {
		return a.Inc > b.Inc
	}
	return a.Status > b.Status
}

func (m *model) hear(l []api.Peer, now int) {
	m.begin(now)
	for _, p := range l {
		if !may(p) {
			continue
		}
		old, is := m.known[p.Node]
		if p.Node == m.self {
			if p.Status != 1 && p.Inc >= old.Inc && p.Inc+1 <= 1<<40 {
				m.say(peer(m.self, p.Inc+1, 1))
			}
			if p.Status == 1 && p.Inc > old.Inc {
				m.set(p)
			}
			continue
		}
		if !is || newer(p, old) {
			m.say(p)
		}
	}
}

func (m *model) tick(now int) {
	m.begin(now)
	for node := 0; node <= 7; node++ {
		if p := m.known[node]; p.Status == 2 && m.time-m.since[node] >= 300 {
			m.say(peer(node, p.Inc, 3))
			m.dead++
		}
	}
	open := slices.Clone(m.open)
	m.open = nil
	for _, w := range open {
		m.waited(w)
	}
	if m.began && m.time-m.lastPing < 100 {
		return
	}
	if target := m.target(); target >= 0 && m.count < 1<<40 {
		m.count++
		m.began, m.lastPing, m.lastTarget = true, m.time, target
		m.open = append(m.open, waiting{target: target, req: m.count, since: m.time})
		m.send(ping(m.self, target, m.count, -1, -1))
	}
}

func (m *model) waited(w waiting) {
	if m.time-w.since < 50 {
		m.open = append(m.open, w)
		return
	}
	if !w.others {
		n := 0
		for node := 0; node <= 7 && n < 2; node++ {
			if node != m.self && node != w.target && m.known[node].Status == 1 {
				m.send(ping(m.self, node, w.req, w.target, -1))
				n++
			}
		}
		if n > 0 {
			m.asked++
		}
		m.open = append(m.open, waiting{w.target, w.req, m.time, true})
		return
	}
	if p := m.known[w.target]; p.Status == 1 {
		m.say(peer(w.target, p.Inc, 2))
	}
}

// target is the next one, -1 if there is none.
func (m *model) target() int {
	var may []int
	for node := 0; node <= 7; node++ {
		_, known := m.known[node]
		if known && node != m.self && !slices.ContainsFunc(m.open, func(w waiting) bool { return w.target == node }) {
			may = append(may, node)
		}
	}
	if len(may) == 0 {
		return -1
	}
	for _, node := range may {
		if m.began && node > m.lastTarget {
			return node
		}
	}
	return may[0]
}

func (m *model) on(x api.Msg, now int) {
	m.begin(now)
	node := func(n int) bool { return n >= 0 && n <= 7 }
	if x.Kind != api.MsgPing && x.Kind != api.MsgPong || !node(x.From) || x.From == m.self {
		return
	}
	if _, is := m.known[x.From]; !is {
		m.say(peer(x.From, 0, 1))
	}
	if x.Kind == api.MsgPing {
		if x.Owner == -1 || x.Owner == m.self {
			n := -1
			if node(x.N) {
				n = x.N
			}
			m.send(pong(m.self, x.From, x.Req, m.self, n))
		} else if node(x.Owner) {
			m.send(ping(m.self, x.Owner, x.Req, -1, x.From))
		}
		return
	}
	if x.N == -1 || x.N == m.self {
		var open []waiting
		for _, w := range m.open {
			if w.target != x.Owner || w.req != x.Req {
				open = append(open, w)
			}
		}
		m.open = open
	} else if node(x.N) {
		m.send(pong(m.self, x.N, x.Req, x.Owner, -1))
	}
}

func (m *model) peers() []api.Peer {
	var l []api.Peer
	for node := 0; node <= 7; node++ {
		if p, is := m.known[node]; is {
			l = append(l, p)
		}
	}
	return l
}

// Tables and models that are handed the same answer the same, and know the same.
func TestThrownCalls(t *testing.T) {
	g := &dice{x: 12}
	told, asked, died, closed := 0, 0, 0, 0
	for run := range 400 {
		self := run % api.MaxNodes
		s, m := of(t, self), newModel(self)
		now := 0
		for range 300 {
			now += g.from(0, 0, 1, 9, 10, 20, 40, 49, 50, 100, 300)
			at := now - g.from(0, 0, 0, 0, 0, 0, 1, 60, 1<<62)
			switch g.below(9) {
			case 0:
				l := g.peers(3)
				m.hear(l, at)
				s.hears(at, l, m.told...)
			case 1, 2:
				x := g.msg()
				m.on(x, at)
				s.takes(x, at, m.msgs, m.told...)
			case 3:
				if len(m.open) > 0 { // an answer to one that is open, or to one like it
					w := m.open[g.below(len(m.open))]
					x := pong(g.from(w.target, g.below(api.MaxNodes)), self, w.req+g.below(2), w.target, g.from(-1, self))
					was := len(m.open)
					m.on(x, at)
					s.takes(x, at, m.msgs, m.told...)
					closed += was - len(m.open)
				}
			default:
				m.tick(at)
				s.ticks(at, m.msgs, m.told...)
			}
			s.knows(m.peers()...)
			told += len(m.told)
			if t.Failed() {
				t.Fatalf("in run %d, at %d", run, at)
			}
		}
		asked, died = asked+m.asked, died+m.dead
	}
	if told < 5000 || asked < 1000 || died < 300 || closed < 500 {
		t.Errorf("only %d rumours told, %d asked about, %d dead, %d answered", told, asked, died, closed)
	}
}
