package ormap_test

import (
	"testing"

	"trolley/api"
	"trolley/ormap"
)

func TestP5_3Join(t *testing.T) {
	seen := sample()
	bread, milk, more := seen.Entries[0], seen.Entries[1], seen.Entries[2]
	tea := entry("tea", dot(4, 1, 1), 1, 1)
	cases := []struct {
		why        string
		a, b, want api.Cart
	}{
		{"nothing and nothing", api.Cart{}, api.Cart{}, api.Cart{}},
		{"nothing and something", api.Cart{}, seen, seen},
		{"twice the same", seen, seen, seen},
		{"the fullest twice", fullest(), fullest(), fullest()},
		{"dots alone", cart(marks(mark(0, 1, 2))), cart(marks(mark(0, 1, 3))), cart(marks(mark(0, 1, 3)))},
		{"things that know nothing of one another", seen, cart(marks(mark(4, 1, 1)), tea),
			cart(api.Context{Marks: []api.Mark{mark(0, 1, 3), mark(2, 5, 1), mark(4, 1, 1)}, Cloud: seen.Ctx.Cloud}, bread, milk, more, tea)},
		{"one taken out", seen, cart(seen.Ctx, bread, more), cart(seen.Ctx, bread, more)},
		{"all taken out", seen, cart(seen.Ctx), cart(seen.Ctx)},
		{"each took one out", cart(seen.Ctx, bread, milk), cart(seen.Ctx, milk, more), cart(seen.Ctx, milk)},
		{"taken out beside a mark", seen, cart(api.Context{Cloud: []api.Dot{dot(0, 1, 5)}}), cart(seen.Ctx, milk, more)},
		{"taken out below a mark", seen, cart(marks(mark(0, 1, 2))), cart(seen.Ctx, bread, more)},
		{"the mark does not reach it", seen, cart(marks(mark(0, 1, 1))), seen},
		{"another life", cart(marks(mark(0, 1, 1)), entry("milk", dot(0, 1, 1), 1, 1)), cart(marks(mark(0, 2, 1))),
			cart(marks(mark(0, 1, 1), mark(0, 2, 1)), entry("milk", dot(0, 1, 1), 1, 1))},
		{"entries between one another", cart(marks(mark(1, 1, 2)), entry("a", dot(1, 1, 1), 1, 1), entry("c", dot(1, 1, 2), 1, 1)),
			cart(marks(mark(0, 1, 2)), entry("b", dot(0, 1, 1), 1, 1), entry("c", dot(0, 1, 2), 1, 1)),
			cart(marks(mark(0, 1, 2), mark(1, 1, 2)),
				entry("a", dot(1, 1, 1), 1, 1), entry("b", dot(0, 1, 1), 1, 1), entry("c", dot(0, 1, 2), 1, 1), entry("c", dot(1, 1, 2), 1, 1))},
	}
	for _, c := range cases {
		for _, pair := range [][2]api.Cart{{c.a, c.b}, {c.b, c.a}} {
			a, b := roomy(pair[0]), roomy(pair[1])
			got, e := ormap.Join(a, b)
			if e != api.OK || !same(got, c.want) {
				t.Errorf("%s: %v, %v; want %v", c.why, got, e, c.want)
			}
			spoil(got)
			if !untouched(a, pair[0]) || !untouched(b, pair[1]) {
				t.Errorf("%s: what was joined has changed", c.why)
			}
		}
	}
}

func notJoined(t *testing.T, why string, a, b api.Cart, want api.Errno) {
	t.Helper()
	if c, e := ormap.Join(a, b); e != want || !isEmpty(c) {
		t.Errorf("%s: %v, %v; want %v", why, c, e, want)
	}
}

func TestP5_3JoinOfWhatMayNotBe(t *testing.T) {
	for _, w := range wrongCarts() {
		notJoined(t, w.why+", first", w.cart, sample(), w.want)
		notJoined(t, w.why+", second", sample(), w.cart, w.want)
		notJoined(t, w.why+", with nothing", w.cart, api.Cart{}, w.want)
	}
	noDots, noQty := cart(marks(mark(0, 0, 0))), cart(marks(mark(0, 1, 1)), entry("a", dot(0, 1, 1), 0, 1))
	notJoined(t, "the first one's error first", noDots, noQty, api.ErrDots)
	notJoined(t, "the first one's error first", noQty, noDots, api.ErrQty)
}

func TestP5_3JoinBeyondAContext(t *testing.T) {
	full := fullest()
	notJoined(t, "a mark too many", full, cart(marks(mark(0, 1, 1))), api.ErrLong)
	notJoined(t, "a dot too many", cart(api.Context{Cloud: []api.Dot{dot(0, 1, 2)}}), full, api.ErrLong)
	tea := cart(marks(mark(0, 1, 1)), entry("tea", dot(0, 1, 1), 1, 1))
	notJoined(t, "a mark too many ahead of an entry too many", full, tea, api.ErrLong)
	unlike := fullest()
	unlike.Entries[5].Qty--
	unlike.Ctx.Cloud[0] = dot(0, 1, 2)
	unlike.Ctx.Cloud = unlike.Ctx.Cloud[:1]
	notJoined(t, "a dot too many ahead of unlike entries", full, unlike, api.ErrLong)
}

func TestP5_3JoinBeyondACart(t *testing.T) {
	half := api.MaxItems / 2
	if c := join(t, wide(half, 1), other(wide(half, 2))); len(c.Entries) != api.MaxItems {
		t.Errorf("as many items as may be: %d", len(c.Entries))
	}
	notJoined(t, "one item too many", wide(half, 1), other(wide(half+1, 2)), api.ErrItems)
	if c := join(t, wide(api.MaxItems, 1), wide(api.MaxItems, 2)); len(c.Entries) != api.MaxLive {
		t.Errorf("as many entries as may be: %d", len(c.Entries))
	}
	if c := join(t, deep(30, "milk", 1), deep(34, "milk", 2)); len(c.Entries) != api.MaxLive {
		t.Errorf("as many entries of one item as may be: %d", len(c.Entries))
	}
	notJoined(t, "one entry too many", deep(30, "milk", 1), deep(35, "milk", 2), api.ErrItems)
	notJoined(t, "very many too many", deep(64, "milk", 1), deep(64, "milk", 2), api.ErrItems)
	gone := cart(deep(1, "milk", 1).Ctx, deep(35, "milk", 2).Entries...)
	gone.Ctx.Marks = append(gone.Ctx.Marks, deep(35, "milk", 2).Ctx.Marks...)
	if c := join(t, deep(30, "milk", 1), gone); len(c.Entries) != api.MaxLive {
		t.Errorf("one too many, but it was taken out: %d", len(c.Entries))
	}
}

// other has other items.
func other(c api.Cart) api.Cart {
	for i := range c.Entries {
		c.Entries[i].Item = "other." + c.Entries[i].Item
	}
	return c
}

// Unlike entries with one dot clash, whatever they are unlike in.
func TestP5_3JoinOfUnlikeEntries(t *testing.T) {
	ctx := marks(mark(0, 1, 3))
	base := api.Entry{Item: "milk", Dot: dot(0, 1, 2), Qty: 2, Price: plusZero}
	item, qty, price, zero := base, base, base, base
	item.Item, qty.Qty, price.Price, zero.Price = "tea", 3, least, minusZero
	for _, e := range []api.Entry{item, qty, price, zero} {
		notJoined(t, "alone", cart(ctx, base), cart(ctx, e), api.ErrCart)
		notJoined(t, "alone, turned", cart(ctx, e), cart(ctx, base), api.ErrCart)
		notJoined(t, "behind one that is alike", cart(ctx, entry("a", dot(0, 1, 1), 1, 1), base), cart(ctx, entry("a", dot(0, 1, 1), 1, 1), e), api.ErrCart)
		notJoined(t, "beside others", cart(ctx, entry("a", dot(0, 1, 1), 1, 1), base), cart(ctx, e, entry("z", dot(0, 1, 3), 1, 1)), api.ErrCart)
	}
	if c := join(t, cart(ctx, base), cart(ctx, entry("milk", dot(0, 1, 3), 3, 0))); len(c.Entries) != 0 {
		t.Errorf("unlike dots do not clash: %v", c)
	}
	a, b := wide(api.MaxItems, 1), other(wide(api.MaxItems, 2))
	a.Ctx.Marks, b.Ctx.Marks = append([]api.Mark{mark(0, 1, 1)}, a.Ctx.Marks...), append([]api.Mark{mark(0, 1, 1)}, b.Ctx.Marks...)
	a.Entries[0].Dot, b.Entries[0].Dot = dot(0, 1, 1), dot(0, 1, 1)
	notJoined(t, "too many items ahead of unlike ones", a, b, api.ErrItems)
	a, b = deep(api.MaxLive, "milk", 1), deep(api.MaxLive, "milk", 1)
	b.Entries[9].Qty = 99
	notJoined(t, "two that clash are none too many", a, b, api.ErrCart)
}
