package ormap

import (
	"cmp"
	"iter"
	"math"
	"slices"

	"trolley/api"
	"trolley/causal"
)

func ofDot(d api.Dot) api.Actor { return api.Actor{Node: d.Node, Life: d.Life} }

// mayDot asks causal by way of the set of the dot alone.
func mayDot(d api.Dot) bool {
	_, e := causal.Normal(nil, []api.Dot{d})
	return e == api.OK
}

// mayPrice holds for -0 too, and for no NaN.
func mayPrice(price uint64) bool { return math.Float64frombits(price) >= 0 }

// comparePrices is the floats' order. Floats that are alike while their bits are not are the two zeros: as a signed number -0 is the one below. (NaNs, which are no prices, come below all, so that any bits have an order.)
func comparePrices(a, b uint64) int {
	return cmp.Or(
		cmp.Compare(math.Float64frombits(a), math.Float64frombits(b)),
		cmp.Compare(int64(a), int64(b)),
	)
}

func compareLines(a, b api.Line) int {
	return cmp.Or(cmp.Compare(a.Qty, b.Qty), comparePrices(a.Price, b.Price))
}

func compareEntries(a, b api.Entry) int {
	return cmp.Or(
		cmp.Compare(a.Item, b.Item),
		cmp.Compare(a.Dot.Node, b.Dot.Node),
		cmp.Compare(a.Dot.Life, b.Dot.Life),
		cmp.Compare(a.Dot.Count, b.Dot.Count),
	)
}

// inOrder yields entries in a cart's order, in whatever order they stand.
func inOrder(entries []api.Entry) iter.Seq[api.Entry] {
	return slices.Values(slices.SortedFunc(slices.Values(entries), compareEntries))
}

// without leaves the list as it is.
func without(entries []api.Entry, out func(api.Entry) bool) []api.Entry {
	return slices.DeleteFunc(slices.Clone(entries), out)
}

func hasDot(entries []api.Entry, d api.Dot) bool {
	return slices.ContainsFunc(entries, func(e api.Entry) bool { return e.Dot == d })
}

// clash tells whether two carts' entries give one dot to unlike things.
func clash(a, b []api.Entry) bool {
	return slices.ContainsFunc(a, func(e api.Entry) bool { return hasDot(b, e.Dot) && !slices.Contains(b, e) })
}

// room tells whether there are no more entries, or items, than a cart may have.
func room(entries []api.Entry) api.Errno {
	if len(entries) > api.MaxLive || len(Read(api.Cart{Entries: entries})) > api.MaxItems {
		return api.ErrItems
	}
	return api.OK
}

// build makes a cart of entries in any order.
func build(entries []api.Entry, ctx api.Context) (api.Cart, api.Errno) {
	if e := room(entries); e != api.OK {
		return api.Cart{}, e
	}
	return api.Cart{Entries: slices.Collect(inOrder(entries)), Ctx: ctx}, api.OK
}
