package ormap_test

import (
	"slices"
	"testing"

	"trolley/api"
	"trolley/ormap"
)

func TestP5_2Apply(t *testing.T) {
	seen := sample()
	bread, milk, more := seen.Entries[0], seen.Entries[1], seen.Entries[2]
	grown := api.Context{Marks: []api.Mark{mark(0, 1, 5), mark(2, 5, 1)}}
	cases := []struct {
		why  string
		u    api.Update
		want api.Cart
	}{
		{"the first item", put(dot(0, 1, 1), "milk", 2, 1.5, api.Cart{}), cart(marks(mark(0, 1, 1)), entry("milk", dot(0, 1, 1), 2, 1.5))},
		{"a dot with a gap below", put(dot(0, 1, 2), "milk", 2, 1.5, api.Cart{}),
			cart(api.Context{Cloud: []api.Dot{dot(0, 1, 2)}}, entry("milk", dot(0, 1, 2), 2, 1.5))},
		{"nothing taken out of nothing", put(dot(0, 1, 1), "milk", 0, 0, api.Cart{}), cart(marks(mark(0, 1, 1)))},
		{"an item ahead", put(dot(0, 1, 4), "apple", 1, 0, seen), cart(grown, entry("apple", dot(0, 1, 4), 1, 0), bread, milk, more)},
		{"an item between", put(dot(0, 1, 4), "lemon", 1, 0, seen), cart(grown, bread, entry("lemon", dot(0, 1, 4), 1, 0), milk, more)},
		{"an item behind", put(dot(0, 1, 4), "tea", 1, 0, seen), cart(grown, bread, milk, more, entry("tea", dot(0, 1, 4), 1, 0))},
		{"an item that begins like one", put(dot(0, 1, 4), "mil", 1, 0, seen), cart(grown, bread, entry("mil", dot(0, 1, 4), 1, 0), milk, more)},
		{"an item in capitals", put(dot(0, 1, 4), "MILK", 1, 0, seen), cart(grown, entry("MILK", dot(0, 1, 4), 1, 0), bread, milk, more)},
		{"an item anew", put(dot(0, 1, 4), "milk", 9, 0, seen), cart(grown, bread, entry("milk", dot(0, 1, 4), 9, 0))},
		{"the same pieces anew", put(dot(0, 1, 4), "bread", 4, 0, seen), cart(grown, entry("bread", dot(0, 1, 4), 4, 0), milk, more)},
		{"an item taken out", put(dot(0, 1, 4), "milk", 0, 0, seen), cart(grown, bread)},
		{"an item taken out that is not there", put(dot(0, 1, 4), "tea", 0, 0, seen), cart(grown, bread, milk, more)},
	}
	for _, c := range cases {
		c.u.Seen = roomy(c.u.Seen)
		was := roomy(c.u.Seen)
		got, e := ormap.Apply(c.u)
		if e != api.OK || !same(got, c.want) {
			t.Errorf("%s: %v, %v; want %v", c.why, got, e, c.want)
		}
		spoil(got)
		if !untouched(c.u.Seen, was) {
			t.Errorf("%s: what was seen has changed", c.why)
		}
	}
}

func TestP5_2ApplyKeepsThePriceByItsBits(t *testing.T) {
	for _, price := range rightPrices() {
		u := put(dot(0, 1, 1), "milk", api.MaxQty, 0, api.Cart{})
		u.Price = price
		if c := apply(t, u); len(c.Entries) != 1 || c.Entries[0].Price != price || c.Entries[0].Qty != api.MaxQty {
			t.Errorf("the price %x: %v", price, c)
		}
	}
}

func refusedUpdate(t *testing.T, why string, u api.Update, want api.Errno) {
	t.Helper()
	if c, e := ormap.Apply(u); e != want || !isEmpty(c) {
		t.Errorf("%s: %v, %v; want %v", why, c, e, want)
	}
}

func TestP5_2ApplyOfWhatMayNotBe(t *testing.T) {
	for _, w := range wrongCarts() {
		refusedUpdate(t, w.why, put(dot(0, 1, 1), "milk", 1, 1, w.cart), w.want)
	}
	for _, d := range wrongDots() {
		refusedUpdate(t, "a dot", put(d, "milk", 1, 1, sample()), api.ErrArg)
	}
	refusedUpdate(t, "a dot that was seen", put(dot(0, 1, 2), "milk", 1, 1, sample()), api.ErrArg)
	refusedUpdate(t, "a name", put(dot(0, 1, 4), "", 1, 1, sample()), api.ErrName)
	refusedUpdate(t, "pieces", put(dot(0, 1, 4), "milk", -1, 1, sample()), api.ErrQty)
	refusedUpdate(t, "a price", put(dot(0, 1, 4), "milk", 1, -1, sample()), api.ErrPrice)
	refusedUpdate(t, "a price of nothing", put(dot(0, 1, 4), "milk", 0, 1, sample()), api.ErrPrice)
}

func TestP5_2ApplyBeyondAContext(t *testing.T) {
	full := fullest()
	full.Entries = nil
	for _, d := range []api.Dot{dot(0, 1, 1), dot(0, 1, 2), dot(api.MaxNodes-1, api.MaxLife, 1000)} {
		refusedUpdate(t, "a dot too many", put(d, "milk", 1, 1, full), api.ErrLong)
		refusedUpdate(t, "a dot too many, nothing put", put(d, "milk", 0, 0, full), api.ErrLong)
		refusedUpdate(t, "a dot too many ahead of an entry too many", put(d, "milk", 1, 1, fullest()), api.ErrLong)
	}
	full.Ctx.Cloud = full.Ctx.Cloud[1:]
	c := apply(t, put(dot(0, 1, 2), "milk", 1, 1, full))
	if len(c.Ctx.Cloud) != api.MaxCloud || len(c.Ctx.Marks) != api.MaxMarks {
		t.Errorf("the last dot: %v", c)
	}
}

func TestP5_2ApplyBeyondACart(t *testing.T) {
	d := dot(0, 1, 1)
	c := apply(t, put(d, "zucchini", 1, 1, wide(api.MaxItems-1, 1)))
	if len(c.Entries) != api.MaxItems {
		t.Errorf("the last item: %d", len(c.Entries))
	}
	refusedUpdate(t, "an item too many", put(d, "zucchini", 1, 1, wide(api.MaxItems, 1)), api.ErrItems)
	refusedUpdate(t, "an item too many ahead", put(d, "a", 1, 1, wide(api.MaxItems, 1)), api.ErrItems)
	c = apply(t, put(d, "zucchini", 0, 0, wide(api.MaxItems, 1)))
	if len(c.Entries) != api.MaxItems {
		t.Errorf("nothing of an item too many: %d", len(c.Entries))
	}
	c = apply(t, put(d, numbered(3), 1, 1, wide(api.MaxItems, 1)))
	if len(c.Entries) != api.MaxItems || c.Entries[3].Dot != d {
		t.Errorf("one of as many items as may be: %v", c)
	}
	c = apply(t, put(d, "tea", 1, 1, deep(api.MaxLive-1, "milk", 1)))
	if len(c.Entries) != api.MaxLive {
		t.Errorf("the last entry: %d", len(c.Entries))
	}
	refusedUpdate(t, "an entry too many", put(d, "tea", 1, 1, deep(api.MaxLive, "milk", 1)), api.ErrItems)
	c = apply(t, put(d, "milk", 1, 1, deep(api.MaxLive, "milk", 1)))
	if len(c.Entries) != 1 {
		t.Errorf("all entries anew: %d", len(c.Entries))
	}
	c = apply(t, put(d, "tea", 0, 0, deep(api.MaxLive, "milk", 1)))
	if len(c.Entries) != api.MaxLive {
		t.Errorf("nothing of an entry too many: %d", len(c.Entries))
	}
}

func TestExamplesOfTheDocument(t *testing.T) {
	two := apply(t, put(dot(0, 1, 1), "milk", 2, 1.5, api.Cart{}))
	if len(two.Entries) != 1 || !slices.Equal(two.Ctx.Marks, []api.Mark{mark(0, 1, 1)}) || len(two.Ctx.Cloud) != 0 {
		t.Errorf("2 milk: %v", two)
	}
	three := apply(t, put(dot(1, 1, 1), "milk", 3, 1.5, api.Cart{}))
	both := join(t, two, three)
	if len(both.Entries) != 2 || !slices.Equal(ormap.Read(both), []api.Line{{Item: "milk", Qty: 3, Price: ofFloat(1.5)}}) {
		t.Errorf("2 milk and 3: %v", both)
	}
	none := apply(t, put(dot(0, 1, 2), "milk", 0, 0, both))
	if len(none.Entries) != 0 {
		t.Errorf("milk taken out: %v", none)
	}
	if c := join(t, none, two); len(c.Entries) != 0 {
		t.Errorf("with what was seen: %v", c)
	}
	five := apply(t, put(dot(2, 1, 1), "milk", 5, 2, two))
	if c := join(t, none, five); !slices.Equal(c.Entries, []api.Entry{entry("milk", dot(2, 1, 1), 5, 2)}) {
		t.Errorf("with 5 milk: %v", c)
	}
}
