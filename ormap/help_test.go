package ormap_test

import (
	"cmp"
	"encoding/binary"
	"math"
	"slices"
	"strconv"
	"strings"
	"testing"

	"trolley/api"
	"trolley/ormap"
)

// Prices at their edges, as bits.
const (
	plusZero  = 0
	minusZero = 1 << 63
	least     = 1 // the least float above nought
)

var infinity = math.Float64bits(math.Inf(1))

// ofFloat are a price's bits.
func ofFloat(f float64) uint64 { return math.Float64bits(f) }

// rightPrices rise, by the order of prices.
func rightPrices() []uint64 {
	return []uint64{minusZero, plusZero, least, 2, ofFloat(0.1), ofFloat(1), ofFloat(1.5), ofFloat(math.MaxFloat64), infinity}
}

func wrongPrices() []uint64 {
	return []uint64{
		minusZero + least, ofFloat(-0.1), ofFloat(-1), ofFloat(-math.MaxFloat64), ofFloat(math.Inf(-1)),
		infinity + 1, infinity + 1<<51, ofFloat(math.NaN()), 1<<63 - 1, minusZero + infinity + 1, minusZero + infinity + 1<<51, math.MaxUint64,
	}
}

func rightNames() []string {
	return []string{"a", "z", "A", "Z", "0", "9", ".", "-", "_", "milk", "Milk-2_0.x", "..", strings.Repeat("n", api.MaxName)}
}

func wrongNames() []string {
	return []string{
		"", " ", "a b", "a/b", "a:", "a@", "[", "`", "{", "a,", "^", "milk\x00", "\x00", "\n", "\x7f", "\x80", "\xff", "é", "日本", "\u212a",
		strings.Repeat("n", api.MaxName+1), strings.Repeat("n", 1<<16),
	}
}

func wrongDots() []api.Dot {
	return []api.Dot{
		{}, dot(-1, 1, 1), dot(api.MaxNodes, 1, 1), dot(math.MinInt, 1, 1), dot(math.MaxInt, 1, 1),
		dot(0, 0, 1), dot(0, -1, 1), dot(0, api.MaxLife+1, 1), dot(0, math.MinInt, 1), dot(0, math.MaxInt, 1),
		dot(0, 1, 0), dot(0, 1, -1), dot(0, 1, api.MaxCount+1), dot(0, 1, math.MinInt), dot(0, 1, math.MaxInt),
	}
}

func dot(node, life, count int) api.Dot { return api.Dot{Node: node, Life: life, Count: count} }

func mark(node, life, count int) api.Mark { return api.Mark{Node: node, Life: life, Count: count} }

func actor(node, life int) api.Actor { return api.Actor{Node: node, Life: life} }

func marks(m ...api.Mark) api.Context { return api.Context{Marks: m} }

func entry(item string, d api.Dot, qty int, price float64) api.Entry {
	return api.Entry{Item: item, Dot: d, Qty: qty, Price: ofFloat(price)}
}

func cart(ctx api.Context, entries ...api.Entry) api.Cart {
	return api.Cart{Entries: entries, Ctx: ctx}
}

// numbered is a name of so many bytes that rises with its number.
func numbered(i int) string { return "item" + strconv.Itoa(100+i) }

// wide has so many items of one entry each, all of one actor.
func wide(items, node int) api.Cart {
	c := cart(marks(mark(node, 1, max(items, 1))))
	for i := range items {
		c.Entries = append(c.Entries, entry(numbered(i), dot(node, 1, i+1), i+1, 0.5))
	}
	return c
}

// deep has so many entries of one item, all of one actor.
func deep(entries int, item string, node int) api.Cart {
	c := cart(marks(mark(node, 1, max(entries, 1))))
	for i := range entries {
		c.Entries = append(c.Entries, entry(item, dot(node, 1, i+1), i+1, 0.5))
	}
	return c
}

// fullest has as many entries, items, marks and dots beside them as may be, each entry with the longest code.
func fullest() api.Cart {
	var c api.Cart
	for i := range api.MaxMarks {
		c.Ctx.Marks = append(c.Ctx.Marks, mark(i*api.MaxNodes/api.MaxMarks, api.MaxLife-api.MaxMarks+i, api.MaxCount))
		item := strings.Repeat("x", api.MaxName-6) + numbered(i % api.MaxItems)[1:]
		c.Entries = append(c.Entries, api.Entry{Item: item, Dot: api.Dot(c.Ctx.Marks[i]), Qty: api.MaxQty, Price: infinity})
	}
	for i := range api.MaxCloud {
		c.Ctx.Cloud = append(c.Ctx.Cloud, dot(api.MaxNodes-1, api.MaxLife, 3+2*i))
	}
	slices.SortFunc(c.Entries, byPlace)
	return c
}

// byPlace is the order of a cart's entries.
func byPlace(a, b api.Entry) int {
	return cmp.Or(strings.Compare(a.Item, b.Item), byDot(a.Dot, b.Dot))
}

func byDot(a, b api.Dot) int {
	return cmp.Or(cmp.Compare(a.Node, b.Node), cmp.Compare(a.Life, b.Life), cmp.Compare(a.Count, b.Count))
}

// sample has an item with two entries, one with one, a dot that nothing lives of, and one beside the marks.
func sample() api.Cart {
	ctx := api.Context{Marks: []api.Mark{mark(0, 1, 3), mark(2, 5, 1)}, Cloud: []api.Dot{dot(0, 1, 5)}}
	return cart(ctx, entry("bread", dot(0, 1, 5), 4, 0), entry("milk", dot(0, 1, 2), 2, 1.5), entry("milk", dot(2, 5, 1), 3, 1.25))
}

// rightCarts may be.
func rightCarts() []api.Cart {
	l := []api.Cart{
		{}, {Entries: []api.Entry{}, Ctx: api.Context{Marks: []api.Mark{}, Cloud: []api.Dot{}}},
		cart(marks(mark(0, 1, 1))), sample(), fullest(),
		wide(1, 0), wide(api.MaxItems, 1), deep(api.MaxLive, "milk", 7),
		cart(api.Context{Cloud: []api.Dot{dot(1, 1, 2)}}, entry("milk", dot(1, 1, 2), 1, 1)),
		cart(marks(mark(0, 1, 1), mark(0, 2, 1), mark(1, 1, 1)),
			entry("milk", dot(0, 1, 1), 1, 1), entry("milk", dot(0, 2, 1), 1, 1), entry("milk", dot(1, 1, 1), 1, 1)),
		cart(marks(mark(0, 1, 2), mark(1, 1, 1)),
			entry("Milk", dot(1, 1, 1), 1, 1), entry("m", dot(0, 1, 2), 1, 1), entry("milk", dot(0, 1, 1), 1, 1)),
		cart(marks(mark(7, api.MaxLife, api.MaxCount)), entry("milk", dot(7, api.MaxLife, api.MaxCount), api.MaxQty, 1)),
	}
	for _, price := range rightPrices() {
		l = append(l, cart(marks(mark(0, 1, 1)), api.Entry{Item: "milk", Dot: dot(0, 1, 1), Qty: 1, Price: price}))
	}
	for _, name := range rightNames() {
		l = append(l, cart(marks(mark(0, 1, 1)), entry(name, dot(0, 1, 1), 1, 1)))
	}
	return l
}

// wrong is a cart that can't be.
type wrong struct {
	why  string
	cart api.Cart
	want api.Errno
}

// wrongCarts have one fault each, in their only entry or behind one that may be.
func wrongCarts() []wrong {
	first := entry("a", dot(3, 1, 1), 1, 1)
	l := []wrong{
		{"marks fall", cart(marks(mark(1, 1, 1), mark(0, 1, 1))), api.ErrDots},
		{"too many marks", cart(marks(slices.Repeat([]api.Mark{mark(0, 1, 1)}, api.MaxMarks+1)...)), api.ErrDots},
		{"the dot 1 in the cloud", cart(api.Context{Cloud: []api.Dot{dot(0, 1, 1)}}), api.ErrDots},
		{"one item too many", wide(api.MaxItems+1, 1), api.ErrItems},
		{"as many items as entries may be", wide(api.MaxLive, 1), api.ErrItems},
		{"one entry too many", deep(api.MaxLive+1, "milk", 1), api.ErrItems},
		{"very many entries", deep(1<<17, "milk", 1), api.ErrItems},
		{"an entry twice", cart(marks(mark(3, 1, 1)), first, first), api.ErrCart},
		{"a dot twice, items rise", cart(marks(mark(3, 1, 1)), first, entry("b", dot(3, 1, 1), 1, 1)), api.ErrCart},
		{"a dot twice, one between", cart(marks(mark(3, 1, 2)), first, entry("b", dot(3, 1, 2), 1, 1), entry("c", dot(3, 1, 1), 1, 1)), api.ErrCart},
		{"items fall", cart(marks(mark(3, 1, 2)), entry("b", dot(3, 1, 1), 1, 1), entry("a", dot(3, 1, 2), 1, 1)), api.ErrCart},
		{"items fall by case", cart(marks(mark(3, 1, 2)), entry("a", dot(3, 1, 1), 1, 1), entry("B", dot(3, 1, 2), 1, 1)), api.ErrCart},
		{"an item's beginning behind it", cart(marks(mark(3, 1, 2)), entry("ab", dot(3, 1, 1), 1, 1), entry("a", dot(3, 1, 2), 1, 1)), api.ErrCart},
		{"a later item falls", cart(marks(mark(3, 1, 3)), first, entry("c", dot(3, 1, 2), 1, 1), entry("b", dot(3, 1, 3), 1, 1)), api.ErrCart},
		{"nodes fall", cart(marks(mark(2, 2, 2), mark(3, 1, 1)), first, entry("a", dot(2, 2, 2), 1, 1)), api.ErrCart},
		{"lives fall", cart(marks(mark(3, 1, 2), mark(3, 2, 1)), entry("a", dot(3, 2, 1), 1, 1), entry("a", dot(3, 1, 2), 1, 1)), api.ErrCart},
		{"counts fall", cart(marks(mark(3, 1, 2)), entry("a", dot(3, 1, 2), 1, 1), entry("a", dot(3, 1, 1), 1, 1)), api.ErrCart},
		{"a dot of another life", cart(marks(mark(3, 2, 1)), first), api.ErrCart},
		{"a dot above its mark", cart(marks(mark(3, 1, 1)), entry("a", dot(3, 1, 2), 1, 1)), api.ErrCart},
		{"a dot in a gap", cart(api.Context{Marks: []api.Mark{mark(3, 1, 1)}, Cloud: []api.Dot{dot(3, 1, 3)}}, entry("a", dot(3, 1, 2), 1, 1)), api.ErrCart},
		{"no dots at all", cart(api.Context{}, first), api.ErrCart},
	}
	one := func(why string, e api.Entry, want api.Errno) {
		ctx := marks(mark(3, 1, 2))
		l = append(l, wrong{why, cart(ctx, e), want}, wrong{why + ", behind one that may be", cart(ctx, first, e), want})
	}
	for _, name := range wrongNames() {
		one("the item "+strconv.Quote(name[:min(len(name), 40)]), entry(name, dot(3, 1, 2), 1, 1), api.ErrName)
	}
	for _, qty := range []int{0, -1, math.MinInt, api.MaxQty + 1, math.MaxInt} {
		one("so many pieces: "+strconv.Itoa(qty), entry("b", dot(3, 1, 2), qty, 1), api.ErrQty)
	}
	for _, price := range wrongPrices() {
		one("the price "+strconv.FormatUint(price, 16), api.Entry{Item: "b", Dot: dot(3, 1, 2), Qty: 1, Price: price}, api.ErrPrice)
	}
	for i, d := range wrongDots() {
		one("the wrong dot "+strconv.Itoa(i), entry("b", d, 1, 1), api.ErrCart)
	}
	return l
}

func same(a, b api.Cart) bool {
	return slices.Equal(a.Entries, b.Entries) && slices.Equal(a.Ctx.Marks, b.Ctx.Marks) && slices.Equal(a.Ctx.Cloud, b.Ctx.Cloud)
}

func isEmpty(c api.Cart) bool { return same(c, api.Cart{}) }

// roomy is a cart whose lists have room behind their ends.
func roomy(c api.Cart) api.Cart {
	return api.Cart{
		Entries: append(make([]api.Entry, 0, len(c.Entries)+5), c.Entries...),
		Ctx: api.Context{
			Marks: append(make([]api.Mark, 0, len(c.Ctx.Marks)+5), c.Ctx.Marks...),
			Cloud: append(make([]api.Dot, 0, len(c.Ctx.Cloud)+5), c.Ctx.Cloud...),
		},
	}
}

// untouched tells whether a roomy cart is as it was, and the room behind its lists too.
func untouched(c, was api.Cart) bool {
	all, want := whole(c), whole(roomy(was))
	return same(c, was) && slices.Equal(all.Entries, want.Entries) && slices.Equal(all.Ctx.Marks, want.Ctx.Marks) && slices.Equal(all.Ctx.Cloud, want.Ctx.Cloud)
}

// whole is a cart with the room behind its lists.
func whole(c api.Cart) api.Cart {
	return api.Cart{
		Entries: c.Entries[:cap(c.Entries)],
		Ctx:     api.Context{Marks: c.Ctx.Marks[:cap(c.Ctx.Marks)], Cloud: c.Ctx.Cloud[:cap(c.Ctx.Cloud)]},
	}
}

// spoil writes into all of a cart's memory.
func spoil(c api.Cart) {
	all := whole(c)
	for i := range all.Entries {
		all.Entries[i] = api.Entry{Item: "spoilt", Qty: -7}
	}
	for i := range all.Ctx.Marks {
		all.Ctx.Marks[i] = mark(-7, -7, -7)
	}
	for i := range all.Ctx.Cloud {
		all.Ctx.Cloud[i] = dot(-7, -7, -7)
	}
}

// codeOf is a cart's code, made without the program, whether the cart may be or not.
func codeOf(c api.Cart) []byte {
	b := uvarints(nil, len(c.Entries))
	for _, e := range c.Entries {
		b = append(uvarints(b, len(e.Item)), e.Item...)
		b = uvarints(b, e.Dot.Node, e.Dot.Life, e.Dot.Count, e.Qty)
		b = binary.LittleEndian.AppendUint64(b, e.Price)
	}
	b = uvarints(b, len(c.Ctx.Marks))
	for _, m := range c.Ctx.Marks {
		b = uvarints(b, m.Node, m.Life, m.Count)
	}
	b = uvarints(b, len(c.Ctx.Cloud))
	for _, d := range c.Ctx.Cloud {
		b = uvarints(b, d.Node, d.Life, d.Count)
	}
	return b
}

func uvarints(b []byte, numbers ...int) []byte {
	for _, n := range numbers {
		b = binary.AppendUvarint(b, uint64(n))
	}
	return b
}

func ok(t *testing.T, what string, e api.Errno) {
	t.Helper()
	if e != api.OK {
		t.Fatalf("%s: %v", what, e)
	}
}

// join is a join that must be, of a cart that may be.
func join(t *testing.T, a, b api.Cart) api.Cart {
	t.Helper()
	c, e := ormap.Join(a, b)
	ok(t, "Join", e)
	ok(t, "Can of a join", ormap.Can(c))
	return c
}

// put is an update of the cart "cart".
func put(d api.Dot, item string, qty int, price float64, seen api.Cart) api.Update {
	return api.Update{Key: "cart", Dot: d, Item: item, Qty: qty, Price: ofFloat(price), Seen: seen}
}

// apply is what an update makes, which must be.
func apply(t *testing.T, u api.Update) api.Cart {
	t.Helper()
	c, e := ormap.Apply(u)
	ok(t, "Apply", e)
	ok(t, "Can of what an update made", ormap.Can(c))
	return c
}
