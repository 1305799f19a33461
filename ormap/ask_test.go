package ormap_test

import (
	"math"
	"slices"
	"testing"

	"trolley/api"
	"trolley/ormap"
)

func TestP5_4Prune(t *testing.T) {
	seen := sample()
	bread, milk, more := seen.Entries[0], seen.Entries[1], seen.Entries[2]
	cases := []struct {
		why  string
		c    api.Cart
		a    api.Actor
		want api.Cart
	}{
		{"nothing", api.Cart{}, actor(0, 1), api.Cart{}},
		{"an actor with a mark and a dot beside", seen, actor(0, 1), cart(marks(mark(2, 5, 1)), more)},
		{"an actor with a mark", seen, actor(2, 5), cart(api.Context{Marks: []api.Mark{mark(0, 1, 3)}, Cloud: seen.Ctx.Cloud}, bread, milk)},
		{"another life", seen, actor(0, 2), seen},
		{"another node", seen, actor(1, 1), seen},
		{"no actor", seen, actor(-1, 0), seen},
		{"the plain actor", seen, actor(0, 0), seen},
		{"a huge actor", seen, actor(math.MaxInt, math.MinInt), seen},
		{"one of the fullest", fullest(), actor(0, api.MaxLife-api.MaxMarks), func() api.Cart {
			c := fullest()
			c.Ctx.Marks = c.Ctx.Marks[1:]
			c.Entries = c.Entries[1:]
			return c
		}()},
	}
	for _, c := range cases {
		given := roomy(c.c)
		got := ormap.Prune(given, c.a)
		if !same(got, c.want) {
			t.Errorf("%s: %v, want %v", c.why, got, c.want)
		}
		spoil(got)
		if !untouched(given, c.c) {
			t.Errorf("%s: the cart has changed", c.why)
		}
	}
}

func TestP5_4Leq(t *testing.T) {
	seen := sample()
	bread, milk, more := seen.Entries[0], seen.Entries[1], seen.Entries[2]
	grown := marks(mark(0, 1, 5), mark(2, 5, 1))
	dearer := milk
	dearer.Price++
	cases := []struct {
		why         string
		a, b        api.Cart
		there, back bool
	}{
		{"nothing and nothing", api.Cart{}, api.Cart{}, true, true},
		{"nothing and something", api.Cart{}, seen, true, false},
		{"the same", seen, sample(), true, true},
		{"the fullest", fullest(), fullest(), true, true},
		{"more dots", seen, cart(grown, bread, milk, more), true, false},
		{"more dots, one thing less", seen, cart(grown, bread, more), true, false},
		{"the same dots, one thing less", seen, cart(seen.Ctx, bread, more), true, false},
		{"the same dots, all things less", seen, cart(seen.Ctx), true, false},
		{"each another thing less", cart(seen.Ctx, milk, more), cart(seen.Ctx, bread, more), false, false},
		{"more dots, and a thing that was gone", cart(seen.Ctx, bread, more), cart(grown, bread, milk, more), false, false},
		{"more dots, and a new thing", cart(marks(mark(0, 1, 1))), cart(marks(mark(0, 1, 2)), entry("a", dot(0, 1, 2), 1, 1)), true, false},
		{"a dot of another actor", cart(marks(mark(0, 1, 1))), cart(marks(mark(1, 1, 1))), false, false},
		{"unlike things of one dot", cart(seen.Ctx, milk), cart(seen.Ctx, dearer), false, false},
		{"too much for one cart", deep(64, "milk", 1), deep(64, "milk", 2), false, false},
		{"too much for one context", fullest(), cart(marks(mark(0, 1, 1))), false, false},
	}
	for _, c := range cases {
		a, b := roomy(c.a), roomy(c.b)
		if there, back := ormap.Leq(a, b), ormap.Leq(b, a); there != c.there || back != c.back {
			t.Errorf("%s: %v, back %v", c.why, there, back)
		}
		if !untouched(a, c.a) || !untouched(b, c.b) {
			t.Errorf("%s: the carts have changed", c.why)
		}
	}
}

func TestP5_4Lives(t *testing.T) {
	c := sample()
	gone := cart(c.Ctx, c.Entries[0], c.Entries[1])
	cases := []struct {
		c    api.Cart
		a    api.Actor
		want bool
	}{
		{c, actor(0, 1), true}, {c, actor(2, 5), true},
		{c, actor(0, 2), false}, {c, actor(1, 1), false}, {c, actor(2, 1), false}, {c, actor(0, 5), false}, {c, actor(0, 0), false}, {c, actor(math.MinInt, math.MaxInt), false},
		{gone, actor(2, 5), false}, {gone, actor(0, 1), true},
		{api.Cart{}, actor(0, 1), false}, {api.Cart{}, actor(0, 0), false},
		{fullest(), actor(7, api.MaxLife-1), true}, {fullest(), actor(7, api.MaxLife), false},
	}
	for _, x := range cases {
		if ormap.Lives(x.c, x.a) != x.want {
			t.Errorf("Lives(%v, %v) is %v", x.c, x.a, !x.want)
		}
	}
}

// Of carts that may not be the calls end, and change nothing.
func TestP5_4OfWhatMayNotBe(t *testing.T) {
	for _, w := range wrongCarts() {
		c := roomy(w.cart)
		for _, a := range []api.Actor{actor(3, 1), actor(0, 0), actor(-1, math.MinInt)} {
			spoil(ormap.Prune(c, a))
			ormap.Lives(c, a)
		}
		ormap.Leq(c, sample())
		ormap.Leq(sample(), c)
		ormap.Leq(c, c)
		if !untouched(c, w.cart) {
			t.Errorf("%s: the cart has changed", w.why)
		}
	}
}

func TestP5_4Same(t *testing.T) {
	for i, a := range rightCarts() {
		for j, b := range rightCarts() {
			want := i == j || same(a, b)
			if ormap.Same(a, b) != want || ormap.Same(roomy(a), b) != want {
				t.Errorf("Same(%v, %v) is not %v", a, b, want)
			}
		}
	}
	for _, w := range wrongCarts() {
		if !ormap.Same(w.cart, roomy(w.cart)) || ormap.Same(w.cart, sample()) {
			t.Errorf("Same of carts that may not be: %s", w.why)
		}
	}
	empty := api.Cart{Entries: []api.Entry{}, Ctx: api.Context{Marks: []api.Mark{}, Cloud: []api.Dot{}}}
	if !ormap.Same(api.Cart{}, empty) || !ormap.Same(empty, api.Cart{}) {
		t.Error("nil and empty are not alike")
	}
	for i, turn := range []func(c *api.Cart){
		func(c *api.Cart) { c.Entries[1].Item = "mild" },
		func(c *api.Cart) { c.Entries[1].Dot.Node++ },
		func(c *api.Cart) { c.Entries[1].Dot.Life++ },
		func(c *api.Cart) { c.Entries[1].Dot.Count++ },
		func(c *api.Cart) { c.Entries[1].Qty++ },
		func(c *api.Cart) { c.Entries[0].Price = minusZero },
		func(c *api.Cart) { c.Entries = c.Entries[:2] },
		func(c *api.Cart) { c.Entries = nil },
		func(c *api.Cart) { c.Entries = append(c.Entries, c.Entries[0]) },
		func(c *api.Cart) { slices.Reverse(c.Entries) },
		func(c *api.Cart) { c.Ctx.Marks[0].Count++ },
		func(c *api.Cart) { c.Ctx.Marks[1].Life++ },
		func(c *api.Cart) { c.Ctx.Marks = c.Ctx.Marks[:1] },
		func(c *api.Cart) { c.Ctx.Cloud[0].Count++ },
		func(c *api.Cart) { c.Ctx.Cloud = nil },
	} {
		c := sample()
		turn(&c)
		if ormap.Same(c, sample()) || ormap.Same(sample(), c) {
			t.Errorf("turn %d is not seen", i)
		}
	}
	nan := cart(marks(mark(0, 1, 1)), entry("a", dot(0, 1, 1), 1, math.NaN()))
	if !ormap.Same(nan, roomy(nan)) {
		t.Error("a price is told by its bits")
	}
}

func TestP5_5Read(t *testing.T) {
	line := func(item string, qty int, price float64) api.Line {
		return api.Line{Item: item, Qty: qty, Price: ofFloat(price)}
	}
	of := func(item string, count, qty int, price float64) api.Entry {
		return entry(item, dot(0, 1, count), qty, price)
	}
	ctx := marks(mark(0, 1, 9))
	cases := []struct {
		why  string
		c    api.Cart
		want []api.Line
	}{
		{"nothing", api.Cart{}, nil},
		{"nothing that lives", cart(ctx), nil},
		{"sample", sample(), []api.Line{line("bread", 4, 0), line("milk", 3, 1.25)}},
		{"the greatest first", cart(ctx, of("a", 1, 3, 1), of("a", 2, 2, 5)), []api.Line{line("a", 3, 1)}},
		{"the greatest last", cart(ctx, of("a", 1, 2, 5), of("a", 2, 3, 1)), []api.Line{line("a", 3, 1)}},
		{"the greatest between", cart(ctx, of("a", 1, 1, 9), of("a", 2, 3, 1), of("a", 3, 2, 5)), []api.Line{line("a", 3, 1)}},
		{"the dearest first", cart(ctx, of("a", 1, 2, 5), of("a", 2, 2, 1), of("a", 3, 1, 9)), []api.Line{line("a", 2, 5)}},
		{"the dearest last", cart(ctx, of("a", 1, 2, 1), of("a", 2, 1, 9), of("a", 3, 2, 5)), []api.Line{line("a", 2, 5)}},
		{"all alike", cart(ctx, of("a", 1, 2, 1), of("a", 2, 2, 1)), []api.Line{line("a", 2, 1)}},
		{"items by their bytes", cart(ctx, of("-", 1, 1, 1), of(".", 2, 1, 1), of("0", 3, 1, 1), of("B", 4, 1, 1), of("_", 5, 1, 1), of("a", 6, 1, 1), of("aB", 7, 1, 1), of("aa", 8, 1, 1)),
			[]api.Line{line("-", 1, 1), line(".", 1, 1), line("0", 1, 1), line("B", 1, 1), line("_", 1, 1), line("a", 1, 1), line("aB", 1, 1), line("aa", 1, 1)}},
	}
	for _, c := range cases {
		given := roomy(c.c)
		if got := ormap.Read(given); !slices.Equal(got, c.want) {
			t.Errorf("%s: %v, want %v", c.why, got, c.want)
		}
		if !untouched(given, c.c) {
			t.Errorf("%s: the cart has changed", c.why)
		}
	}
	if n := len(ormap.Read(fullest())); n != api.MaxItems {
		t.Errorf("the fullest: %d items", n)
	}
}

func TestP5_5PricesInOrder(t *testing.T) {
	prices := rightPrices()
	for i, low := range prices {
		for _, high := range prices[i:] {
			for _, pair := range [][2]uint64{{low, high}, {high, low}} {
				c := cart(marks(mark(0, 1, 2)),
					api.Entry{Item: "a", Dot: dot(0, 1, 1), Qty: 1, Price: pair[0]}, api.Entry{Item: "a", Dot: dot(0, 1, 2), Qty: 1, Price: pair[1]})
				if l := ormap.Read(c); len(l) != 1 || l[0].Price != high {
					t.Errorf("the prices %x and %x: %v", pair[0], pair[1], l)
				}
			}
		}
	}
}

// Read tells of any cart, also of one that may not be: items rise, in whatever order the entries stand.
func TestP5_5ReadOfWhatMayNotBe(t *testing.T) {
	c := cart(api.Context{}, entry("b", dot(0, 1, 1), -5, 1), entry("a", dot(0, 1, 1), 0, 1), entry("b", dot(0, 1, 1), -6, 2), entry("", api.Dot{}, math.MaxInt, 1), entry("b", dot(0, 0, 1), -5, 0.5))
	want := []api.Line{{Item: "", Qty: math.MaxInt, Price: ofFloat(1)}, {Item: "a", Qty: 0, Price: ofFloat(1)}, {Item: "b", Qty: -5, Price: ofFloat(1)}}
	turned := roomy(c)
	slices.Reverse(turned.Entries)
	if got := ormap.Read(c); !slices.Equal(got, want) {
		t.Errorf("%v: %v", c, got)
	}
	if got := ormap.Read(turned); !slices.Equal(got, want) {
		t.Errorf("%v: %v", turned, got)
	}
	below := cart(api.Context{}, entry("a", dot(0, 1, 1), 1, -2), entry("a", dot(0, 1, 2), 1, -1), entry("a", dot(0, 1, 3), 1, math.Inf(-1)))
	if got := ormap.Read(below); !slices.Equal(got, []api.Line{{Item: "a", Qty: 1, Price: ofFloat(-1)}}) {
		t.Errorf("%v: %v", below, got)
	}
	for _, w := range wrongCarts() {
		given := roomy(w.cart)
		lines := ormap.Read(given)
		slices.Reverse(given.Entries)
		if !slices.Equal(lines, ormap.Read(given)) {
			t.Errorf("%s: what is read hangs on the order of the entries", w.why)
		}
	}
}
