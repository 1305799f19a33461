package swim

import (
	"slices"

	"trolley/api"
	"trolley/peers"
)

// Milliseconds.
const (
	pingEvery  = 100 // from a ping to the next one
	pingAge    = 50  // until others are asked, and from then on until the target is suspected
	suspectAge = 300 // until who is suspected is dead
)

const (
	mostAsked = 2
	nobody    = -1 // in a message's Owner and N
)

// ping is one that waits for its answer.
type ping struct {
	target, req int
	since       int
	asked       bool // whether others were asked
}

// wait asks others about the targets of pings that wait too long, and suspects those about which others were asked.
func (t *Table) wait() ([]api.Msg, []api.Peer) {
	var messages []api.Msg
	var told []api.Peer
	var still []ping
	for _, p := range t.open {
		switch {
		case t.now-p.since < pingAge:
			still = append(still, p)
		case !p.asked:
			messages = append(messages, t.askOthers(p)...)
			still = append(still, ping{target: p.target, req: p.req, since: t.now, asked: true})
		case t.nodes[p.target].Status == api.PeerAlive:
			told = append(told, t.turn(p.target, api.PeerSuspect)...)
		}
	}
	t.open = still
	return messages, told
}

func (t *Table) askOthers(p ping) []api.Msg {
	var messages []api.Msg
	for node, s := range t.nodes {
		if s.Status == api.PeerAlive && node != t.self && node != p.target && len(messages) < mostAsked {
			messages = append(messages, api.Msg{Kind: api.MsgPing, From: t.self, To: node, Req: p.req, Owner: p.target, N: nobody})
		}
	}
	return messages
}

// begin pings the next node, if it is time to.
func (t *Table) begin() []api.Msg {
	early := t.last.req > 0 && t.now-t.last.since < pingEvery
	target := t.next()
	if early || target == nobody || t.last.req >= api.MaxReq {
		return nil
	}
	t.last = ping{target: target, req: t.last.req + 1, since: t.now}
	t.open = append(t.open, t.last)
	return []api.Msg{{Kind: api.MsgPing, From: t.self, To: target, Req: t.last.req, Owner: nobody, N: nobody}}
}

// next goes once around all nodes, from the one behind the last target on.
func (t *Table) next() int {
	for i := range api.MaxNodes {
		node := (t.last.target + 1 + i) % api.MaxNodes
		if node != t.self && t.knows(node) && !t.pings(node) {
			return node
		}
	}
	return nobody
}

func (t *Table) pings(node int) bool {
	return slices.ContainsFunc(t.open, func(p ping) bool { return p.target == node })
}

// answer tells who pings this node that it is there, and passes on a ping that is meant for another one.
func (t *Table) answer(m api.Msg) []api.Msg {
	switch {
	case m.Owner == nobody || m.Owner == t.self:
		pong := api.Msg{Kind: api.MsgPong, From: t.self, To: m.From, Req: m.Req, Owner: t.self, N: nobody}
		if peers.IsNode(m.N) {
			pong.N = m.N
		}
		return []api.Msg{pong}
	case peers.IsNode(m.Owner):
		return []api.Msg{{Kind: api.MsgPing, From: t.self, To: m.Owner, Req: m.Req, Owner: nobody, N: m.From}}
	}
	return nil
}

// take ends the ping that is answered, and passes on an answer that is meant for another node.
func (t *Table) take(m api.Msg) []api.Msg {
	switch {
	case m.N == nobody || m.N == t.self:
		t.open = slices.DeleteFunc(t.open, func(p ping) bool { return p.target == m.Owner && p.req == m.Req })
	case peers.IsNode(m.N):
		return []api.Msg{{Kind: api.MsgPong, From: t.self, To: m.N, Req: m.Req, Owner: m.Owner, N: nobody}}
	}
	return nil
}
