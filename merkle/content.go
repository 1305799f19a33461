package merkle

import (
	"maps"
	"slices"

	"trolley/api"
	"trolley/ident"
)

// content is keys with their hashes: a tree's own, or those that another one tells. The hashes of places are worked out whenever they are asked for, so that they can't be other ones than the keys'.
type content map[string]uint64

// contentOf leaves out what is no key, and tells whether there was nothing such.
func contentOf(l []api.Sum) (c content, right bool) {
	c, right = content{}, true
	for _, s := range l {
		if ident.IsKey(s.Key) {
			c[s.Key] = s.Hash
		} else {
			right = false
		}
	}
	return c, right
}

// keys are all of them, rising.
func (c content) keys() []string { return slices.Sorted(maps.Keys(c)) }

// agrees tells whether both have a key, with one hash.
func (c content) agrees(other content, key string) bool {
	a, in := c[key]
	b, too := other[key]
	return in && too && a == b
}

// leaves are the keys of each leaf, rising.
func (c content) leaves() [leafCount][]api.Sum {
	var all [leafCount][]api.Sum
	for _, key := range c.keys() {
		p := Place(key)
		all[p] = append(all[p], api.Sum{Place: p, Key: key, Hash: c[key]})
	}
	return all
}

// levels are the hashes of all places, from the root's level to the leaves'.
func (c content) levels() [api.Depth + 1][]uint64 {
	var all [api.Depth + 1][]uint64
	for _, keys := range c.leaves() {
		all[api.Depth] = append(all[api.Depth], leafHash(keys))
	}
	for level := api.Depth - 1; level >= 0; level-- {
		lower := all[level+1]
		for p := range placeCount(level) {
			left, right := children(p)
			all[level] = append(all[level], hashAbove(lower[left], lower[right]))
		}
	}
	return all
}
