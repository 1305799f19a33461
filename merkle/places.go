package merkle

import (
	"slices"

	"trolley/api"
	"trolley/ident"
)

const leafCount = 1 << api.Depth

// placeCount is how many places a level has.
func placeCount(level int) int { return 1 << level }

// arePlaces tells whether there is such a level, and all places are of it.
func arePlaces(level int, places []int) bool {
	return 0 <= level && level <= api.Depth &&
		!slices.ContainsFunc(places, func(p int) bool { return p < 0 || p >= placeCount(level) })
}

// children are the places below one.
func children(place int) (left, right int) { return 2 * place, 2*place + 1 }

// leafHash is the hash of a leaf with such keys.
func leafHash(keys []api.Sum) uint64 {
	h := uint64(0)
	for _, k := range keys {
		h = ident.Mix(h, ident.Mix(ident.Hash([]byte(k.Key)), k.Hash))
	}
	return h
}

// hashAbove is the hash of a place above two with such hashes.
func hashAbove(left, right uint64) uint64 {
	if left == 0 && right == 0 {
		return 0
	}
	return ident.Mix(left, right)
}
