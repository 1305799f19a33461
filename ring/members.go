package ring

import (
	"cmp"
	"maps"
	"math"
	"slices"

	"trolley/api"
	"trolley/ident"
)

func isNode(node int) bool { return 0 <= node && node < api.MaxNodes }

// within tells whether a number is from 1 to one.
func within(n, most int) bool { return 1 <= n && n <= most }

// canShape tells whether a ring without members can be; of which parts there are ident tells.
func canShape(r api.Ring) bool {
	_, ok := ident.Start(0, r.Parts)
	return ok && within(r.Copies, api.MaxCopies) && within(r.Spots, api.MaxSpots)
}

func sameShape(a, b api.Ring) bool {
	return a.Parts == b.Parts && a.Copies == b.Copies && a.Spots == b.Spots
}

// canMembers ends early at a list of any length: no more than MaxNodes of them can rise.
func canMembers(list []api.Member) bool {
	for i, m := range list {
		if !canMember(m) || i > 0 && list[i-1].Node >= m.Node {
			return false
		}
	}
	return true
}

func canMember(m api.Member) bool {
	return isNode(m.Node) && within(m.Epoch, api.MaxEpoch) && within(m.Stamp, api.MaxStamp) &&
		(m.Status == api.RingIn || m.Status == api.RingOut)
}

// compareVersions tells which of two members is later: by Epoch, then Stamp, then Status.
func compareVersions(a, b api.Member) int {
	return cmp.Or(cmp.Compare(a.Epoch, b.Epoch), cmp.Compare(a.Stamp, b.Stamp), cmp.Compare(a.Status, b.Status))
}

// members are a ring's, by their nodes. Of a node without one the map answers the zero member, which is earlier than all that can be.
type members map[int]api.Member

func membersOf(r api.Ring) members {
	all := members{}
	for _, m := range r.Members {
		all[m.Node] = m
	}
	return all
}

// ringLike is the ring of these members, in its shape like another one.
func (all members) ringLike(r api.Ring) api.Ring {
	like := api.Ring{Parts: r.Parts, Copies: r.Copies, Spots: r.Spots}
	for _, node := range slices.Sorted(maps.Keys(all)) {
		like.Members = append(like.Members, all[node])
	}
	return like
}

// wayTo is how far behind a position a node's first place is, once around the ring.
func wayTo(r api.Ring, node int, position uint64) uint64 {
	way := uint64(math.MaxUint64)
	for i := range r.Spots {
		way = min(way, ident.Point(node, i)-position)
	}
	return way
}
