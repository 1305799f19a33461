package ormap_test

import (
	"math"
	"testing"

	"trolley/api"
	"trolley/ormap"
)

func TestP5_1Can(t *testing.T) {
	for _, c := range rightCarts() {
		if e := ormap.Can(c); e != api.OK {
			t.Errorf("%v: %v", c, e)
		}
	}
	for _, w := range wrongCarts() {
		if e := ormap.Can(w.cart); e != w.want {
			t.Errorf("%s: %v, want %v", w.why, e, w.want)
		}
	}
}

// Of two faults Can tells the one that is named first: those of the context and of the number of entries ahead of all, then those of the entries one by one, then that of the number of items.
func TestP5_1CanTellsTheFirst(t *testing.T) {
	wrongCtx := marks(mark(1, 1, 1), mark(0, 1, 1))
	noName, noQty, noPrice, noDot := entry("", dot(3, 1, 1), 1, 1), entry("a", dot(3, 1, 1), 0, 1), entry("a", dot(3, 1, 1), 1, -1), entry("a", dot(4, 1, 1), 1, 1)
	ctx := marks(mark(3, 1, 1))
	long := deep(api.MaxLive+1, "milk", 1)
	long.Ctx = wrongCtx
	tooMany := wide(api.MaxLive+1, 1)
	tooMany.Entries[0] = noName
	items := func(i int, e api.Entry) api.Cart {
		c := wide(api.MaxItems+1, 1)
		c.Entries[i] = e
		return c
	}
	cases := []struct {
		why  string
		cart api.Cart
		want api.Errno
	}{
		{"a context ahead of too many entries", long, api.ErrDots},
		{"a context ahead of a name", cart(wrongCtx, noName), api.ErrDots},
		{"too many entries ahead of a name", tooMany, api.ErrItems},
		{"a name ahead of pieces", cart(ctx, entry("", dot(3, 1, 1), 0, 1)), api.ErrName},
		{"a name ahead of a price", cart(ctx, entry("a b", dot(3, 1, 1), 1, -1)), api.ErrName},
		{"a name ahead of a dot", cart(ctx, entry("", dot(4, 1, 1), 1, 1)), api.ErrName},
		{"pieces ahead of a price", cart(ctx, entry("a", dot(3, 1, 1), 0, -1)), api.ErrQty},
		{"pieces ahead of a dot", cart(ctx, entry("a", dot(4, 1, 1), api.MaxQty+1, 1)), api.ErrQty},
		{"a price ahead of a dot", cart(ctx, entry("a", dot(4, 1, 1), 1, math.NaN())), api.ErrPrice},
		{"a first entry's pieces ahead of a second one's name", cart(ctx, noQty, noName), api.ErrQty},
		{"a first entry's price ahead of a second one's name", cart(ctx, noPrice, noName), api.ErrPrice},
		{"a first entry's dot ahead of a second one's name", cart(ctx, noDot, noName), api.ErrCart},
		{"a name ahead of a fall", cart(ctx, entry("a", dot(3, 1, 1), 1, 1), noName), api.ErrName},
		{"a price ahead of a fall", cart(ctx, entry("a", dot(3, 1, 1), 1, 1), noPrice), api.ErrPrice},
		{"the last entry's name ahead of too many items", items(api.MaxItems, entry("n/m", dot(1, 1, 1), 1, 1)), api.ErrName},
		{"the last entry's pieces ahead of too many items", items(api.MaxItems, entry("z", dot(1, 1, api.MaxItems+1), 0, 1)), api.ErrQty},
		{"the last entry's dot ahead of too many items", items(api.MaxItems, entry("z", dot(1, 1, 1), 1, 1)), api.ErrCart},
		{"the last entry's fall ahead of too many items", items(api.MaxItems, entry("a", dot(1, 1, api.MaxItems+1), 1, 1)), api.ErrCart},
	}
	for _, c := range cases {
		if e := ormap.Can(c.cart); e != c.want {
			t.Errorf("%s: %v, want %v", c.why, e, c.want)
		}
	}
}

func TestP5_1May(t *testing.T) {
	for _, seen := range rightCarts() {
		for _, u := range []api.Update{put(dot(4, 9, 2), "milk", 1, 1, seen), put(dot(4, 9, 1), "milk", 0, 0, seen), put(dot(4, 9, 7), "tea", api.MaxQty, 1, seen)} {
			if e := ormap.May(u); e != api.OK {
				t.Errorf("%v: %v", u, e)
			}
		}
	}
	right := func(why string, u api.Update) {
		if e := ormap.May(u); e != api.OK {
			t.Errorf("%s: %v", why, e)
		}
	}
	for _, name := range rightNames() {
		u := put(dot(0, 1, 1), name, 1, 1, api.Cart{})
		right("the item "+name, u)
		u.Key, u.Item = name, "milk"
		right("the key "+name, u)
	}
	for _, price := range rightPrices() {
		u := put(dot(0, 1, 1), "milk", 1, 0, api.Cart{})
		u.Price = price
		right("a price", u)
	}
	for _, d := range []api.Dot{dot(0, 1, 1), dot(0, 1, 2), dot(api.MaxNodes-1, api.MaxLife, api.MaxCount)} {
		right("a dot", put(d, "milk", 1, 1, api.Cart{}))
	}
	right("a dot in a gap", put(dot(0, 1, 4), "milk", 1, 1, sample()))
	right("a dot above all", put(dot(0, 1, 6), "milk", 1, 1, sample()))
	right("a dot of another life", put(dot(0, 2, 1), "milk", 1, 1, sample()))
}

func TestP5_1MayErrors(t *testing.T) {
	wrongly := func(why string, u api.Update, want api.Errno) {
		t.Helper()
		if e := ormap.May(u); e != want {
			t.Errorf("%s: %v, want %v", why, e, want)
		}
	}
	for _, name := range wrongNames() {
		u := put(dot(0, 1, 1), name, 1, 1, api.Cart{})
		wrongly("an item", u, api.ErrName)
		u.Key, u.Item = name, "milk"
		wrongly("a key", u, api.ErrName)
	}
	for _, qty := range []int{-1, math.MinInt, api.MaxQty + 1, math.MaxInt} {
		wrongly("pieces", put(dot(0, 1, 1), "milk", qty, 1, api.Cart{}), api.ErrQty)
	}
	for _, price := range wrongPrices() {
		for _, qty := range []int{0, 1} {
			u := put(dot(0, 1, 1), "milk", qty, 1, api.Cart{})
			u.Price = price
			wrongly("a price", u, api.ErrPrice)
		}
	}
	for _, price := range rightPrices() {
		u := put(dot(0, 1, 1), "milk", 0, 1, api.Cart{})
		u.Price = price
		if price != plusZero {
			wrongly("a price of nothing", u, api.ErrPrice)
		}
	}
	for _, w := range wrongCarts() {
		wrongly("seen: "+w.why, put(dot(0, 1, 1), "milk", 1, 1, w.cart), w.want)
	}
	for _, d := range wrongDots() {
		wrongly("a dot that may not be", put(d, "milk", 1, 1, sample()), api.ErrArg)
	}
	for _, d := range []api.Dot{dot(0, 1, 1), dot(0, 1, 3), dot(0, 1, 5), dot(2, 5, 1)} {
		wrongly("a dot that was seen", put(d, "milk", 1, 1, sample()), api.ErrArg)
	}
}

func TestP5_1MayTellsTheFirst(t *testing.T) {
	wrongSeen := cart(marks(mark(1, 1, 1), mark(0, 1, 1)))
	u := put(dot(0, 0, 0), "milk", api.MaxQty+1, -1, wrongSeen)
	u.Key = "a key"
	for _, next := range []struct {
		want api.Errno
		mend func()
	}{
		{api.ErrName, func() { u.Key = "key" }},
		{api.ErrQty, func() { u.Qty = 0 }},
		{api.ErrPrice, func() { u.Price = 0 }},
		{api.ErrDots, func() { u.Seen = api.Cart{} }},
		{api.ErrArg, func() { u.Dot = dot(0, 1, 1) }},
		{api.OK, func() {}},
	} {
		if e := ormap.May(u); e != next.want {
			t.Errorf("%v: %v, want %v", u, e, next.want)
		}
		next.mend()
	}
	u.Item, u.Qty = "an item", -1
	if e := ormap.May(u); e != api.ErrName {
		t.Errorf("an item ahead of pieces: %v", e)
	}
}
