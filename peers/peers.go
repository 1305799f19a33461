// Package peers tells which numbers are nodes, and which rumours of nodes may be. swim, gossip and hints keep to one rule, so that it stands in one place, below them.
package peers

import "trolley/api"

// IsNode tells whether a number is a node, Can whether a rumour may be.
func IsNode(node int) bool { return 0 <= node && node < api.MaxNodes }

func Can(p api.Peer) bool {
	return IsNode(p.Node) && 0 <= p.Inc && p.Inc <= api.MaxInc && api.PeerAlive <= p.Status && p.Status <= api.PeerDead
}
