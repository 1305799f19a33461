package kvstore

import (
	"cmp"
	"maps"
	"slices"

	"trolley/api"
	"trolley/names"
	"trolley/ormap"
)

// content is what a store has: what its records say.
type content struct {
	starts  int
	carts   map[string]api.Cart
	hints   map[api.Hint]struct{}
	retired map[string][]api.Mark // of each key rising, one an actor
}

func nothing() content {
	return content{carts: map[string]api.Cart{}, hints: map[api.Hint]struct{}{}, retired: map[string][]api.Mark{}}
}

// take does what a record says, be it a new one or one that is recovered, and keeps none of its memory. It refuses just carts that can't be put.
func (c *content) take(r record) api.Errno {
	switch r.kind {
	case startsRecord:
		c.starts = r.starts
	case cartRecord:
		_, joined, e := c.put(r.key, r.cart)
		if e != api.OK {
			return e
		}
		c.carts[r.key] = joined
	case dropRecord:
		delete(c.carts, r.key)
	case hintRecord:
		c.hints[api.Hint{Owner: r.owner, Key: r.key}] = struct{}{}
	case unhintRecord:
		delete(c.hints, api.Hint{Owner: r.owner, Key: r.key})
	case retireRecord:
		c.retire(r.key, r.mark)
	}
	return api.OK
}

// retire leaves the first mark of an actor as it is.
func (c *content) retire(key string, m api.Mark) {
	marks := c.retired[key]
	i, already := find(marks, ofMark(m))
	if already {
		return
	}
	c.retired[key] = slices.Insert(marks, i, m)
	if cart, there := c.carts[key]; there {
		c.carts[key] = ormap.Prune(cart, ofMark(m))
	}
}

// put is a cart cleaned for a key, and what there is of the key with that: in new memory, which both may share.
func (c *content) put(key string, cart api.Cart) (cleaned, joined api.Cart, e api.Errno) {
	cleaned, e = c.clean(key, cart)
	joined = cleaned
	if old, there := c.carts[key]; there && e == api.OK {
		joined, e = ormap.Join(old, cleaned)
	}
	if e != api.OK {
		return api.Cart{}, api.Cart{}, e
	}
	return cleaned, joined, api.OK
}

// clean goes through the cart's dots, of which there are few, and not through the key's marks, of which there may be any number.
func (c *content) clean(key string, cart api.Cart) (api.Cart, api.Errno) {
	if !names.Can(key) {
		return api.Cart{}, api.ErrName
	}
	if e := ormap.Can(cart); e != api.OK {
		return api.Cart{}, e
	}
	cleaned := copied(cart)
	for _, d := range lastDots(cart.Ctx) {
		marks := c.retired[key]
		i, retired := find(marks, ofDot(d))
		switch {
		case !retired:
			continue
		case d.Count > marks[i].Count:
			return api.Cart{}, api.ErrCart
		}
		cleaned = ormap.Prune(cleaned, ofDot(d))
	}
	return cleaned, api.OK
}

// records are those that say what there is, and nothing else.
func (c *content) records() []record {
	l := []record{{kind: startsRecord, starts: c.starts}}
	for _, key := range rising(c.retired) {
		for _, m := range c.retired[key] {
			l = append(l, record{kind: retireRecord, key: key, mark: m})
		}
	}
	for _, key := range rising(c.carts) {
		l = append(l, record{kind: cartRecord, key: key, cart: c.carts[key]})
	}
	for _, h := range c.risingHints() {
		l = append(l, record{kind: hintRecord, owner: h.Owner, key: h.Key})
	}
	return l
}

func (c *content) risingHints() []api.Hint {
	return slices.SortedFunc(maps.Keys(c.hints), func(a, b api.Hint) int {
		return cmp.Or(cmp.Compare(a.Owner, b.Owner), cmp.Compare(a.Key, b.Key))
	})
}

// rising are a map's keys in order.
func rising[T any](m map[string]T) []string { return slices.Sorted(maps.Keys(m)) }

func copied(c api.Cart) api.Cart {
	ctx := api.Context{Marks: slices.Clone(c.Ctx.Marks), Cloud: slices.Clone(c.Ctx.Cloud)}
	return api.Cart{Entries: slices.Clone(c.Entries), Ctx: ctx}
}

// lastDots are the last dot of each mark, and those beside the marks: of each actor the greatest is among them.
func lastDots(c api.Context) []api.Dot {
	dots := slices.Clone(c.Cloud)
	for _, m := range c.Marks {
		dots = append(dots, api.Dot(m))
	}
	return dots
}

func ofDot(d api.Dot) api.Actor { return api.Actor{Node: d.Node, Life: d.Life} }

func ofMark(m api.Mark) api.Actor { return ofDot(api.Dot(m)) }

// find is where an actor's mark stands among marks that rise, or would stand.
func find(marks []api.Mark, a api.Actor) (int, bool) {
	return slices.BinarySearchFunc(marks, a, func(m api.Mark, a api.Actor) int {
		return cmp.Or(cmp.Compare(m.Node, a.Node), cmp.Compare(m.Life, a.Life))
	})
}
