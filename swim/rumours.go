package swim

import (
	"trolley/api"
	"trolley/peers"
)

// state is what is known of a node, and since when. That of a node that is not known is the zero one: a rumour that may be has a status.
type state struct {
	api.Peer
	since int
}

func (t *Table) knows(node int) bool { return t.nodes[node] != state{} }

// pass is called with each time that is handed in: one that goes back does not count.
func (t *Table) pass(now int) { t.now = max(t.now, now) }

// learn is how anything comes to be known: since now.
func (t *Table) learn(p api.Peer) { t.nodes[p.Node] = state{p, t.now} }

// tell learns a rumour, which is to be told.
func (t *Table) tell(p api.Peer) []api.Peer {
	t.learn(p)
	return []api.Peer{p}
}

// turn tells of a node that is known what it is now.
func (t *Table) turn(node, status int) []api.Peer {
	return t.tell(api.Peer{Node: node, Inc: t.nodes[node].Inc, Status: status})
}

// hear takes a rumour: what is told of it. The table's own node is alive, so that a rumour that it is not is Greater with the same Inc too; it is contradicted.
func (t *Table) hear(p api.Peer) []api.Peer {
	switch {
	case !peers.Can(p) || t.knows(p.Node) && !Greater(p, t.nodes[p.Node].Peer):
		return nil
	case p.Node != t.self:
		return t.tell(p)
	case p.Status == api.PeerAlive:
		t.learn(p)
	case p.Inc < api.MaxInc:
		return t.tell(api.Peer{Node: t.self, Inc: p.Inc + 1, Status: api.PeerAlive})
	}
	return nil
}

// bury tells of those that were suspected for too long that they are dead.
func (t *Table) bury() []api.Peer {
	var told []api.Peer
	for node, s := range t.nodes {
		if s.Status == api.PeerSuspect && t.now-s.since >= suspectAge {
			told = append(told, t.turn(node, api.PeerDead)...)
		}
	}
	return told
}
