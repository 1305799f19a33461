package kvstore_test

import (
	"cmp"
	"encoding/binary"
	"hash/crc32"
	"maps"
	"math"
	"slices"
	"strconv"
	"strings"
	"testing"

	"trolley/api"
	"trolley/disk"
	"trolley/kvstore"
	"trolley/ormap"
)

func dot(node, life, count int) api.Dot { return api.Dot{Node: node, Life: life, Count: count} }

func mark(node, life, count int) api.Mark { return api.Mark{Node: node, Life: life, Count: count} }

func hint(owner int, key string) api.Hint { return api.Hint{Owner: owner, Key: key} }

func entry(item string, d api.Dot, qty int) api.Entry {
	return api.Entry{Item: item, Dot: d, Qty: qty, Price: math.Float64bits(1.5)}
}

// cart has just the dots of marks.
func cart(marks []api.Mark, entries ...api.Entry) api.Cart {
	return api.Cart{Entries: entries, Ctx: api.Context{Marks: marks}}
}

// one is a cart with one entry, the last one of its actor.
func one(item string, m api.Mark, qty int) api.Cart {
	return cart([]api.Mark{m}, entry(item, api.Dot(m), qty))
}

// known is a cart of which nothing lives.
func known(marks ...api.Mark) api.Cart { return cart(marks) }

// beside is a cart of which nothing lives, with dots that stand beside marks.
func beside(dots ...api.Dot) api.Cart { return api.Cart{Ctx: api.Context{Cloud: dots}} }

// lives has so many marks of a node, from a life on.
func lives(node, life, n int) api.Cart {
	var c api.Cart
	for i := range n {
		c.Ctx.Marks = append(c.Ctx.Marks, mark(node, life+i, 1))
	}
	return c
}

// wide has so many items, all of one actor.
func wide(node, items int) api.Cart {
	c := known(mark(node, 1, items))
	for i := range items {
		c.Entries = append(c.Entries, entry("i"+strconv.Itoa(node)+strconv.Itoa(100+i), dot(node, 1, i+1), 1))
	}
	return c
}

// sample has an item with two entries, one with one, a dot that nothing lives of, and one beside the marks.
func sample() api.Cart {
	return api.Cart{
		Entries: []api.Entry{entry("bread", dot(0, 1, 5), 4), entry("milk", dot(0, 1, 2), 2), entry("milk", dot(2, 5, 1), 3)},
		Ctx:     api.Context{Marks: []api.Mark{mark(0, 1, 3), mark(2, 5, 1)}, Cloud: []api.Dot{dot(0, 1, 5)}},
	}
}

// fullest has as many entries, items, marks and dots beside them as may be, each with the longest code.
func fullest() api.Cart {
	var c api.Cart
	for i := range api.MaxMarks {
		c.Ctx.Marks = append(c.Ctx.Marks, mark(i*api.MaxNodes/api.MaxMarks, api.MaxLife-api.MaxMarks+i, api.MaxCount))
		item := strings.Repeat("x", api.MaxName-3) + strconv.Itoa(100+i%api.MaxItems)
		c.Entries = append(c.Entries, api.Entry{Item: item, Dot: api.Dot(c.Ctx.Marks[i]), Qty: api.MaxQty, Price: math.Float64bits(math.Inf(1))})
	}
	for i := range api.MaxCloud {
		c.Ctx.Cloud = append(c.Ctx.Cloud, dot(api.MaxNodes-1, api.MaxLife, 3+2*i))
	}
	slices.SortStableFunc(c.Entries, func(a, b api.Entry) int { return strings.Compare(a.Item, b.Item) })
	return c
}

func longestName() string { return strings.Repeat("n", api.MaxName) }

func rightNames() []string { return []string{"k", "Z", "0", ".", "-", "_", "cart-1", longestName()} }

func wrongNames() []string {
	return []string{"", " ", "a b", "a/b", "k\x00", "\x00", "\xff", "é", "@", longestName() + "n", strings.Repeat("n", 1<<16)}
}

func wrongOwners() []int { return []int{math.MinInt, -1, api.MaxNodes, 1 << 32, math.MaxInt} }

func wrongMarks() []api.Mark {
	l := []api.Mark{{}}
	for _, node := range wrongOwners() {
		l = append(l, mark(node, 1, 1))
	}
	for _, n := range []int{math.MinInt, -1, 0, api.MaxLife + 1, math.MaxInt} {
		l = append(l, mark(0, n, 1))
	}
	for _, n := range []int{math.MinInt, -1, 0, api.MaxCount + 1, math.MaxInt} {
		l = append(l, mark(0, 1, n))
	}
	return l
}

func rightMarks() []api.Mark {
	return []api.Mark{mark(0, 1, 1), mark(7, 1, 1), mark(0, api.MaxLife, 1), mark(0, 1, api.MaxCount), mark(7, api.MaxLife, api.MaxCount), mark(3, 77, 1<<20)}
}

// wrong is a cart that can't be.
type wrong struct {
	cart api.Cart
	want api.Errno
}

func wrongCarts() []wrong {
	m := mark(3, 1, 2)
	priced := one("milk", m, 1)
	priced.Entries[0].Price = math.Float64bits(-1)
	return []wrong{
		{known(mark(1, 1, 1), mark(0, 1, 1)), api.ErrDots},
		{known(mark(8, 1, 1)), api.ErrDots},
		{known(mark(0, 1, 0)), api.ErrDots},
		{beside(dot(0, 1, 1)), api.ErrDots},
		{lives(0, 1, api.MaxMarks+1), api.ErrDots},
		{one("", m, 1), api.ErrName},
		{one("a b", m, 1), api.ErrName},
		{one(longestName()+"n", m, 1), api.ErrName},
		{one("milk", m, 0), api.ErrQty},
		{one("milk", m, api.MaxQty+1), api.ErrQty},
		{priced, api.ErrPrice},
		{cart([]api.Mark{m}, entry("milk", dot(3, 1, 3), 1)), api.ErrCart},
		{cart([]api.Mark{m}, entry("milk", dot(3, 1, 1), 1), entry("bread", dot(3, 1, 2), 1)), api.ErrCart},
		{cart([]api.Mark{m}, entry("bread", dot(3, 1, 1), 1), entry("milk", dot(3, 1, 1), 1)), api.ErrCart},
		{wide(1, api.MaxItems+1), api.ErrItems},
		{cart([]api.Mark{m}, slices.Repeat([]api.Entry{entry("milk", dot(3, 1, 1), 1)}, api.MaxLive+1)...), api.ErrItems},
	}
}

// The records and frames below are as the document says them, made without the program.

func uvarints(b []byte, n ...int) []byte {
	for _, x := range n {
		b = binary.AppendUvarint(b, uint64(x))
	}
	return b
}

func numbers(n ...int) string { return string(uvarints(nil, n...)) }

func text(s string) string { return numbers(len(s)) + s }

func codeOf(c api.Cart) string {
	b := uvarints(nil, len(c.Entries))
	for _, e := range c.Entries {
		b = append(uvarints(b, len(e.Item)), e.Item...)
		b = uvarints(b, e.Dot.Node, e.Dot.Life, e.Dot.Count, e.Qty)
		b = binary.LittleEndian.AppendUint64(b, e.Price)
	}
	b = uvarints(b, len(c.Ctx.Marks))
	for _, m := range c.Ctx.Marks {
		b = uvarints(b, m.Node, m.Life, m.Count)
	}
	b = uvarints(b, len(c.Ctx.Cloud))
	for _, d := range c.Ctx.Cloud {
		b = uvarints(b, d.Node, d.Life, d.Count)
	}
	return string(b)
}

func startsOf(n int) string                { return "\x01" + numbers(n) }
func cartOf(key string, c api.Cart) string { return "\x02" + text(key) + codeOf(c) }
func dropOf(key string) string             { return "\x03" + text(key) }
func hintOf(h api.Hint) string             { return "\x04" + numbers(h.Owner) + text(h.Key) }
func unhintOf(h api.Hint) string           { return "\x05" + numbers(h.Owner) + text(h.Key) }

func retireOf(key string, m api.Mark) string {
	return "\x06" + text(key) + numbers(m.Node, m.Life, m.Count)
}

// framesOf are records as they stand in a log.
func framesOf(records ...string) string {
	var all []byte
	for _, r := range records {
		all = append(uvarints(all, len(r)), r...)
		all = binary.LittleEndian.AppendUint32(all, crc32.ChecksumIEEE([]byte(r)))
	}
	return string(all)
}

// file is a file's bytes, and how many of them are synced; image a disk's files by their names.
type file struct {
	bytes  string
	synced int
}

type image map[string]file

func look(d *disk.Disk) image {
	m := image{}
	for _, name := range d.Files() {
		b, _ := d.Read(name)
		_, synced, _ := d.Size(name)
		m[name] = file{string(b), synced}
	}
	return m
}

// segments are the names of a log's files, by their numbers.
func (m image) segments() []string {
	number := func(name string) int {
		n, _ := strconv.Atoi(strings.TrimPrefix(name, "log."))
		return n
	}
	l := slices.DeleteFunc(slices.Collect(maps.Keys(m)), func(name string) bool { return number(name) == 0 })
	slices.SortFunc(l, func(a, b string) int { return cmp.Compare(number(a), number(b)) })
	return l
}

// log is what all segments hold together.
func (m image) log() string {
	all := ""
	for _, name := range m.segments() {
		all += m[name].bytes
	}
	return all
}

func room(n int) *disk.Disk {
	d, _ := disk.New(n)
	return d
}

// logged is a roomy disk with a log of records, synced.
func logged(records ...string) *disk.Disk {
	d := room(api.MaxRoom)
	if len(records) > 0 {
		d.Append("log.1", []byte(framesOf(records...)))
		d.Sync("log.1")
	}
	return d
}

func ok(t *testing.T, what string, e api.Errno) {
	t.Helper()
	if e != api.OK {
		t.Fatalf("%s: %v", what, e)
	}
}

func want(t *testing.T, what string, e, want api.Errno) {
	t.Helper()
	if e != want {
		t.Errorf("%s: %v, want %v", what, e, want)
	}
}

func open(t *testing.T, d *disk.Disk) *kvstore.Store {
	t.Helper()
	s, e := kvstore.Open(d)
	ok(t, "Open", e)
	if s == nil {
		t.Fatal("Open: no store")
	}
	return s
}

// empty is a new store on a roomy disk.
func empty(t *testing.T) (*kvstore.Store, *disk.Disk) {
	t.Helper()
	d := room(api.MaxRoom)
	return open(t, d), d
}

// recovered is a store of records, opened from a copy, so that the disk holds nothing else.
func recovered(t *testing.T, records ...string) *kvstore.Store {
	t.Helper()
	return open(t, logged(records...))
}

func put(t *testing.T, s *kvstore.Store, key string, c api.Cart) api.Cart {
	t.Helper()
	joined, e := s.Put(key, c)
	ok(t, "Put", e)
	return joined
}

// holds tells what the records on a disk are to be, behind the one of the start.
func holds(t *testing.T, d *disk.Disk, records ...string) {
	t.Helper()
	if log := look(d).log(); log != framesOf(append([]string{startsOf(1)}, records...)...) {
		t.Fatalf("the log is %q, want %q", log, records)
	}
}

// tell is all that a store's calls tell, but Starts and Bytes.
func tell(s *kvstore.Store) string {
	b := ""
	for _, key := range s.Keys() {
		c, e := s.Get(key)
		b += "cart " + key + " " + e.Error() + " " + strconv.Quote(codeOf(c)) + "\n"
	}
	for _, h := range s.Hints() {
		b += "hint " + strconv.Itoa(h.Owner) + " " + h.Key + "\n"
	}
	for _, key := range append(keys(), rightNames()...) {
		for _, m := range s.Retired(key) {
			b += "retired " + key + " " + strconv.Quote(numbers(m.Node, m.Life, m.Count)) + "\n"
		}
	}
	return b
}

// keys are those of thrown stores.
func keys() []string { return []string{"a", "b", "cart-1", "d.e"} }

// unchanged runs calls that are to change nothing, neither what the store tells nor its disk.
func unchanged(t *testing.T, s *kvstore.Store, d *disk.Disk, what string, calls func()) {
	t.Helper()
	was, told, starts, bytes := look(d), tell(s), s.Starts(), s.Bytes()
	calls()
	if now := look(d); !maps.Equal(now, was) {
		t.Errorf("%s: the disk was %v and is %v", what, was, now)
	}
	if now := tell(s); now != told || s.Starts() != starts || s.Bytes() != bytes {
		t.Errorf("%s: the store was %s and is %s", what, told, now)
	}
}

// same and is hold carts against each other.
func same(a, b api.Cart) bool { return ormap.Same(a, b) }

func is(t *testing.T, what string, got, want api.Cart) {
	t.Helper()
	if !same(got, want) {
		t.Errorf("%s: %v, want %v", what, got, want)
	}
}

// has tells what the cart of a key is to be.
func has(t *testing.T, s *kvstore.Store, key string, c api.Cart) {
	t.Helper()
	got, e := s.Get(key)
	ok(t, "Get of "+key, e)
	is(t, "Get of "+key, got, c)
}

// dice are numbers that look thrown, the same ones each time.
type dice struct{ x uint64 }

func (g *dice) below(n int) int {
	g.x = g.x*6364136223846793005 + 1442695040888963407
	return int(g.x >> 33 % uint64(n))
}
