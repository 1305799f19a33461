package token_test

import (
	"cmp"
	"encoding/base64"
	"encoding/binary"
	"hash/crc32"
	"math"
	"slices"
	"strconv"
	"strings"
	"testing"

	"trolley/api"
	"trolley/token"
)

// alphabet is the letters as the document lists them.
const alphabet = "ABCDEFGHIJKLMNOPQRSTUVWXYZabcdefghijklmnopqrstuvwxyz0123456789-_"

// lettersOf is bytes in letters, and frameOf a frame, made without the program.
func lettersOf(b []byte) string { return base64.RawURLEncoding.EncodeToString(b) }

func frameOf(p []byte) []byte {
	f := append(binary.AppendUvarint(nil, uint64(len(p))), p...)
	return binary.LittleEndian.AppendUint32(f, crc32.ChecksumIEEE(p))
}

// codeOf is a cart's code, made without the program, whether the cart may be or not.
func codeOf(c api.Cart) []byte {
	b := uvarints(nil, len(c.Entries))
	for _, e := range c.Entries {
		b = append(uvarints(b, len(e.Item)), e.Item...)
		b = uvarints(b, e.Dot.Node, e.Dot.Life, e.Dot.Count, e.Qty)
		b = binary.LittleEndian.AppendUint64(b, e.Price)
	}
	b = uvarints(b, len(c.Ctx.Marks))
	for _, m := range c.Ctx.Marks {
		b = uvarints(b, m.Node, m.Life, m.Count)
	}
	b = uvarints(b, len(c.Ctx.Cloud))
	for _, d := range c.Ctx.Cloud {
		b = uvarints(b, d.Node, d.Life, d.Count)
	}
	return b
}

func uvarints(b []byte, numbers ...int) []byte {
	for _, n := range numbers {
		b = binary.AppendUvarint(b, uint64(n))
	}
	return b
}

func tokenOf(c api.Cart) string { return lettersOf(frameOf(codeOf(c))) }

func dot(node, life, count int) api.Dot { return api.Dot{Node: node, Life: life, Count: count} }

func mark(node, life, count int) api.Mark { return api.Mark{Node: node, Life: life, Count: count} }

func marks(m ...api.Mark) api.Context { return api.Context{Marks: m} }

func entry(item string, d api.Dot, qty int, price float64) api.Entry {
	return api.Entry{Item: item, Dot: d, Qty: qty, Price: math.Float64bits(price)}
}

func cart(ctx api.Context, entries ...api.Entry) api.Cart {
	return api.Cart{Entries: entries, Ctx: ctx}
}

// sample has an item with two entries, one with one, a dot that nothing lives of, and one beside the marks.
func sample() api.Cart {
	ctx := api.Context{Marks: []api.Mark{mark(0, 1, 3), mark(2, 5, 1)}, Cloud: []api.Dot{dot(0, 1, 5)}}
	return cart(ctx, entry("bread", dot(0, 1, 5), 4, 0), entry("milk", dot(0, 1, 2), 2, 1.5), entry("milk", dot(2, 5, 1), 3, 1.25))
}

// wide has so many items of one entry each, deep so many entries of one item.
func wide(items int) api.Cart {
	c := cart(marks(mark(1, 1, items)))
	for i := range items {
		c.Entries = append(c.Entries, entry("item"+strconv.Itoa(100+i), dot(1, 1, i+1), i+1, 0.5))
	}
	return c
}

func deep(entries int) api.Cart {
	c := cart(marks(mark(7, 1, entries)))
	for i := range entries {
		c.Entries = append(c.Entries, entry("milk", dot(7, 1, i+1), i+1, 0.5))
	}
	return c
}

// fullest has as many entries, items, marks and dots beside them as may be, each with the longest code.
func fullest() api.Cart {
	var c api.Cart
	for i := range api.MaxMarks {
		m := mark(i*api.MaxNodes/api.MaxMarks, api.MaxLife-api.MaxMarks+i, api.MaxCount)
		item := strings.Repeat("x", api.MaxName-3) + strconv.Itoa(100+i%api.MaxItems)
		c.Ctx.Marks = append(c.Ctx.Marks, m)
		c.Entries = append(c.Entries, entry(item, api.Dot(m), api.MaxQty, math.Inf(1)))
	}
	for i := range api.MaxCloud {
		c.Ctx.Cloud = append(c.Ctx.Cloud, dot(api.MaxNodes-1, api.MaxLife, api.MaxCount-2*(api.MaxCloud-i)))
	}
	slices.SortFunc(c.Entries, func(a, b api.Entry) int {
		return cmp.Or(strings.Compare(a.Item, b.Item), cmp.Compare(a.Dot.Node, b.Dot.Node), cmp.Compare(a.Dot.Life, b.Dot.Life))
	})
	return c
}

// rightCarts may be. Among them are some of lengths that leave no byte, one and two behind the last three, and of one, two bytes of length.
func rightCarts() []api.Cart {
	l := []api.Cart{
		{}, {Entries: []api.Entry{}, Ctx: api.Context{Marks: []api.Mark{}, Cloud: []api.Dot{}}},
		cart(marks(mark(0, 1, 1))), cart(marks(mark(7, api.MaxLife, api.MaxCount))),
		cart(api.Context{Cloud: []api.Dot{dot(1, 1, 2)}}, entry("a", dot(1, 1, 2), 1, math.Copysign(0, -1))),
		sample(), wide(1), wide(2), wide(5), wide(6), wide(api.MaxItems), deep(1), deep(api.MaxLive), fullest(),
	}
	for n := range 40 {
		l = append(l, cart(marks(mark(0, 1, 9)), entry(strings.Repeat("n", 1+n%api.MaxName), dot(0, 1, 1+n%9), 1<<(n%19), 1.5)))
	}
	return l
}

// wrong is a cart that can't be, and the error that Encode answers of it.
type wrong struct {
	why  string
	cart api.Cart
	want api.Errno
}

func wrongCarts() []wrong {
	one := marks(mark(3, 1, 2))
	more, less := fullest(), fullest()
	more.Entries = append(more.Entries, entry(strings.Repeat("x", api.MaxName-3)+"999", api.Dot(mark(0, 1, 1)), 1, 1))
	long, beside := fullest(), fullest()
	long.Ctx.Marks = slices.Insert(long.Ctx.Marks, 0, mark(0, 1, 1))
	beside.Ctx.Cloud = append(beside.Ctx.Cloud, dot(api.MaxNodes-1, api.MaxLife, api.MaxCount))
	less.Ctx.Marks = less.Ctx.Marks[1:]
	return []wrong{
		{"marks fall", cart(marks(mark(1, 1, 1), mark(0, 1, 1))), api.ErrDots},
		{"a dot that is a mark", cart(api.Context{Cloud: []api.Dot{dot(0, 1, 1)}}), api.ErrDots},
		{"a mark without a count", cart(marks(mark(0, 1, 0))), api.ErrDots},
		{"a node that is none", cart(marks(mark(api.MaxNodes, 1, 1))), api.ErrDots},
		{"the fullest and a mark", long, api.ErrDots},
		{"the fullest and a dot", beside, api.ErrDots},
		{"the fullest and an entry", more, api.ErrItems},
		{"the fullest without a mark", less, api.ErrCart},
		{"an item too many", wide(api.MaxItems + 1), api.ErrItems},
		{"an entry too many", deep(api.MaxLive + 1), api.ErrItems},
		{"no item", cart(one, entry("", dot(3, 1, 1), 1, 1)), api.ErrName},
		{"an item with a blank", cart(one, entry("a b", dot(3, 1, 1), 1, 1)), api.ErrName},
		{"an item too long", cart(one, entry(strings.Repeat("n", api.MaxName+1), dot(3, 1, 1), 1, 1)), api.ErrName},
		{"no pieces", cart(one, entry("a", dot(3, 1, 1), 0, 1)), api.ErrQty},
		{"pieces too many", cart(one, entry("a", dot(3, 1, 1), api.MaxQty+1, 1)), api.ErrQty},
		{"a price below nought", cart(one, entry("a", dot(3, 1, 1), 1, -1)), api.ErrPrice},
		{"a price that is none", cart(one, entry("a", dot(3, 1, 1), 1, math.NaN())), api.ErrPrice},
		{"a dot that is not known", cart(one, entry("a", dot(3, 1, 3), 1, 1)), api.ErrCart},
		{"a dot twice", cart(one, entry("a", dot(3, 1, 1), 1, 1), entry("b", dot(3, 1, 1), 1, 1)), api.ErrCart},
		{"items fall", cart(one, entry("b", dot(3, 1, 1), 1, 1), entry("a", dot(3, 1, 2), 1, 1)), api.ErrCart},
		{"entries without dots", cart(api.Context{}, entry("a", dot(3, 1, 1), 1, 1)), api.ErrCart},
	}
}

func same(a, b api.Cart) bool {
	return slices.Equal(a.Entries, b.Entries) && slices.Equal(a.Ctx.Marks, b.Ctx.Marks) && slices.Equal(a.Ctx.Cloud, b.Ctx.Cloud)
}

// roomy is a cart whose lists have room behind their ends, whole one with that room.
func roomy(c api.Cart) api.Cart {
	return api.Cart{
		Entries: append(make([]api.Entry, 0, len(c.Entries)+5), c.Entries...),
		Ctx: api.Context{
			Marks: append(make([]api.Mark, 0, len(c.Ctx.Marks)+5), c.Ctx.Marks...),
			Cloud: append(make([]api.Dot, 0, len(c.Ctx.Cloud)+5), c.Ctx.Cloud...),
		},
	}
}

func whole(c api.Cart) api.Cart {
	return api.Cart{
		Entries: c.Entries[:cap(c.Entries)],
		Ctx:     api.Context{Marks: c.Ctx.Marks[:cap(c.Ctx.Marks)], Cloud: c.Ctx.Cloud[:cap(c.Ctx.Cloud)]},
	}
}

// spoil writes into all of a cart's memory.
func spoil(c api.Cart) {
	all := whole(c)
	for i := range all.Entries {
		all.Entries[i] = api.Entry{Item: "spoilt", Qty: -7}
	}
	for i := range all.Ctx.Marks {
		all.Ctx.Marks[i] = mark(-7, -7, -7)
	}
	for i := range all.Ctx.Cloud {
		all.Ctx.Cloud[i] = dot(-7, -7, -7)
	}
}

// short is as much of a text as a line has room for.
func short(s string) string {
	if len(s) > 60 {
		return strconv.Quote(s[:60]) + ".. of " + strconv.Itoa(len(s))
	}
	return strconv.Quote(s)
}

// made is the token of a cart that has one.
func made(t *testing.T, c api.Cart) string {
	t.Helper()
	s, e := token.Make(c)
	if e != api.OK || s == "" {
		t.Fatalf("Make of %d entries: %s, %v", len(c.Entries), short(s), e)
	}
	return s
}

func refused(t *testing.T, why, s string) {
	t.Helper()
	if c, e := token.Read(s); e != api.ErrToken || !same(c, api.Cart{}) {
		t.Errorf("%s: Read(%s): %v, %v", why, short(s), c, e)
	}
}

// dice are numbers that look thrown, the same ones each time.
type dice struct{ x uint64 }

func (g *dice) below(n int) int {
	g.x = g.x*6364136223846793005 + 1442695040888963407
	return int(g.x >> 33 % uint64(n))
}

func (g *dice) bytes(n int) []byte {
	b := make([]byte, n)
	for i := range b {
		b[i] = byte(g.below(256))
	}
	return b
}

// cart is one that may be, with any number of entries, marks and dots beside them.
func (g *dice) cart() api.Cart {
	var c api.Cart
	for node := range api.MaxNodes {
		if g.below(2) == 0 {
			continue
		}
		m := mark(node, 1+g.below(1<<g.below(31)), 1+g.below(20))
		c.Ctx.Marks = append(c.Ctx.Marks, m)
		for count := m.Count + 2; count < m.Count+10; count += 1 + g.below(5) {
			c.Ctx.Cloud = append(c.Ctx.Cloud, dot(m.Node, m.Life, count))
		}
	}
	dots := slices.Clone(c.Ctx.Cloud)
	for _, m := range c.Ctx.Marks {
		dots = append(dots, api.Dot(m))
	}
	for _, d := range dots {
		if len(c.Entries) < api.MaxItems && g.below(2) == 0 {
			item := string(alphabet[g.below(64)]) + strconv.Itoa(g.below(40))
			c.Entries = append(c.Entries, entry(item, d, 1+g.below(api.MaxQty), float64(g.below(1000))/8))
		}
	}
	slices.SortFunc(c.Entries, func(a, b api.Entry) int {
		return cmp.Or(strings.Compare(a.Item, b.Item), cmp.Compare(a.Dot.Node, b.Dot.Node), cmp.Compare(a.Dot.Count, b.Dot.Count))
	})
	return c
}
