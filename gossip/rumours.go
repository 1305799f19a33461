package gossip

import (
	"trolley/api"
	"trolley/swim"
)

// rumour is one that is kept. How often it was sent its two closures alone know, which count it: a newer rumour of the node has others, and so begins at nought. Where none is kept there are no closures.
type rumour struct {
	api.Peer
	send func() api.Peer // once more
	sent func() int      // how often
}

func counted(p api.Peer) rumour {
	times := 0
	return rumour{
		Peer: p,
		send: func() api.Peer {
			times++
			return p
		},
		sent: func() int { return times },
	}
}

func (r rumour) isKept() bool { return r.sent != nil }

// hear keeps a rumour, unless one that is as new is kept; also one that is not to be sent any more, so that it does not come back.
func (b *Box) hear(p api.Peer) {
	old := b.kept[p.Node]
	if !old.isKept() || swim.Greater(p, old.Peer) {
		b.kept[p.Node] = counted(p)
	}
}

// due is the rumours that are to be sent still, in the order in which they are.
func (b *Box) due() []rumour {
	var l []rumour
	for times := range api.MaxRumour {
		for _, r := range b.kept {
			if r.isKept() && r.sent() == times {
				l = append(l, r)
			}
		}
	}
	return l
}

// send is the rumours that a message takes along.
func (b *Box) send() []api.Peer {
	var l []api.Peer
	for _, r := range b.due() {
		if len(l) < atOnce {
			l = append(l, r.send())
		}
	}
	return l
}
