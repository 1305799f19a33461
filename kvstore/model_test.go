package kvstore_test

import (
	"cmp"
	"maps"
	"slices"
	"strconv"
	"testing"

	"trolley/api"
	"trolley/causal"
	"trolley/disk"
	"trolley/kvstore"
	"trolley/ormap"
)

// model is a store as the document says it: its log is kept beside what it says.
type model struct {
	room   int
	log    []string
	starts int
	carts  map[string]api.Cart
	hints  map[api.Hint]int
	marks  map[string]map[api.Actor]int
}

func (m *model) write(rec string) api.Errno {
	if len(framesOf(append(slices.Clone(m.log), rec)...)) > m.room {
		return api.ErrFull
	}
	m.log = append(m.log, rec)
	return api.OK
}

func (m *model) open() api.Errno {
	if e := m.write(startsOf(m.starts + 1)); e != api.OK {
		return e
	}
	m.starts++
	return api.OK
}

func (m *model) clean(key string, c api.Cart) (api.Cart, api.Errno) {
	for a, count := range m.marks[key] {
		if causal.Top(c.Ctx, a) > count {
			return api.Cart{}, api.ErrCart
		}
		c = ormap.Prune(c, a)
	}
	return c, api.OK
}

func (m *model) put(key string, c api.Cart) (api.Cart, api.Errno) {
	c, e := m.clean(key, c)
	if e != api.OK {
		return api.Cart{}, e
	}
	old, there := m.carts[key]
	joined, e := ormap.Join(old, c) // the empty cart, if there is none
	if e != api.OK || there && same(joined, old) {
		return joined, e
	}
	if e := m.write(cartOf(key, c)); e != api.OK {
		return api.Cart{}, e
	}
	m.carts[key] = joined
	return joined, api.OK
}

func (m *model) drop(key string) api.Errno {
	if _, there := m.carts[key]; !there {
		return api.ErrKey
	}
	e := m.write(dropOf(key))
	if e == api.OK {
		delete(m.carts, key)
	}
	return e
}

func (m *model) hint(h api.Hint) api.Errno {
	if h.Owner < 0 || h.Owner > 7 {
		return api.ErrArg
	}
	if m.hints[h] > 0 {
		return api.OK
	}
	e := m.write(hintOf(h))
	if e == api.OK {
		m.hints[h] = 1
	}
	return e
}

func (m *model) unhint(h api.Hint) api.Errno {
	if m.hints[h] == 0 {
		return api.ErrKey
	}
	e := m.write(unhintOf(h))
	if e == api.OK {
		delete(m.hints, h)
	}
	return e
}

func (m *model) retire(key string, k api.Mark) api.Errno {
	a := api.Actor{Node: k.Node, Life: k.Life}
	if k.Count < 1 {
		return api.ErrArg
	}
	if _, retired := m.marks[key][a]; retired {
		return api.OK
	}
	if c := m.carts[key]; causal.Top(c.Ctx, a) > k.Count || ormap.Lives(c, a) {
		return api.ErrCart
	}
	if e := m.write(retireOf(key, k)); e != api.OK {
		return e
	}
	if m.marks[key] == nil {
		m.marks[key] = map[api.Actor]int{}
	}
	m.marks[key][a] = k.Count
	if c, there := m.carts[key]; there {
		m.carts[key] = ormap.Prune(c, a)
	}
	return api.OK
}

func (m *model) compact() api.Errno {
	l := []string{"", startsOf(m.starts)}
	for _, key := range slices.Sorted(maps.Keys(m.marks)) {
		for _, k := range m.retired(key) {
			l = append(l, retireOf(key, k))
		}
	}
	for _, key := range slices.Sorted(maps.Keys(m.carts)) {
		l = append(l, cartOf(key, m.carts[key]))
	}
	for _, h := range m.kept() {
		l = append(l, hintOf(h))
	}
	if len(framesOf(m.log...))+len(framesOf(l...)) > m.room {
		return api.ErrFull
	}
	m.log = l
	return api.OK
}

func (m *model) retired(key string) []api.Mark {
	var l []api.Mark
	for a, count := range m.marks[key] {
		l = append(l, mark(a.Node, a.Life, count))
	}
	slices.SortFunc(l, func(a, b api.Mark) int { return cmp.Or(a.Node-b.Node, a.Life-b.Life) })
	return l
}

func (m *model) kept() []api.Hint {
	return slices.SortedFunc(maps.Keys(m.hints), func(a, b api.Hint) int {
		return cmp.Or(a.Owner-b.Owner, cmp.Compare(a.Key, b.Key))
	})
}

// tells holds a store, and its disk, against what is expected.
func (m *model) tells(t *testing.T, s *kvstore.Store, d *disk.Disk) {
	t.Helper()
	log := framesOf(m.log...)
	if s.Starts() != m.starts || s.Bytes() != len(log) || look(d).log() != log {
		t.Fatalf("%d, %d bytes, want %d, %d", s.Starts(), s.Bytes(), m.starts, len(log))
	}
	if !slices.Equal(s.Keys(), slices.Sorted(maps.Keys(m.carts))) || !slices.Equal(s.Hints(), m.kept()) {
		t.Fatalf("%v, %v, want %v, %v", s.Keys(), s.Hints(), m.carts, m.hints)
	}
	for _, key := range keys() {
		c, e := s.Get(key)
		if _, there := m.carts[key]; there != (e == api.OK) || !same(c, m.carts[key]) || !slices.Equal(s.Retired(key), m.retired(key)) {
			t.Fatalf("%s: %v, %v, %v, want %v, %v", key, c, e, s.Retired(key), m.carts[key], m.marks[key])
		}
	}
}

// thrown is a store with a model beside it, and what calls of both are thrown with.
type thrown struct {
	*model
	t       *testing.T
	g       *dice
	d       *disk.Disk
	s       *kvstore.Store
	pool    []api.Cart
	answers map[api.Errno]int
}

func throw(t *testing.T, seed uint64, n int) *thrown {
	m := &model{room: n, carts: map[string]api.Cart{}, hints: map[api.Hint]int{}, marks: map[string]map[api.Actor]int{}}
	x := &thrown{model: m, t: t, g: &dice{x: seed}, d: room(n), answers: map[api.Errno]int{}}
	x.s = open(t, x.d)
	ok(t, "the model's Open", m.open())
	x.pool = append(x.g.carts(t, 30), wide(4, api.MaxItems), wide(5, api.MaxItems-3)) // which can't be joined with one another
	return x
}

func (x *thrown) call() (got, wanted api.Errno) {
	key := keys()[x.g.below(len(keys()))]
	h := hint(x.g.below(5)*2, key)
	switch x.g.below(16) {
	case 0:
		return x.s.Drop(key), x.drop(key)
	case 1, 2:
		return x.s.Hint(h), x.hint(h)
	case 3, 4:
		return x.s.Unhint(h), x.unhint(h)
	case 5, 6:
		k := mark(x.g.below(3), 1+x.g.below(2), x.g.below(9))
		return x.s.Retire(key, k), x.retire(key, k)
	case 7:
		if x.g.below(4) > 0 {
			return x.s.Sync(), api.OK
		}
		return x.s.Compact(), x.compact()
	case 8:
		s, e := kvstore.Open(x.d)
		if e == api.OK {
			x.s = s
		}
		return e, x.open()
	}
	c := x.pool[x.g.below(len(x.pool))]
	cleaned, e := x.s.Clean(key, c)
	wish, wanted := x.clean(key, c)
	want(x.t, "Clean", e, wanted)
	is(x.t, "Clean", cleaned, wish)
	joined, got := x.s.Put(key, c)
	wish, wanted = x.put(key, c)
	is(x.t, "Put", joined, wish)
	return got, wanted
}

func TestP9_7Thrown(t *testing.T) {
	answers := map[api.Errno]int{}
	segments := 0
	for seed := range uint64(60) {
		x := throw(t, 900+seed, 1000+int(seed)*200)
		for n := range 250 {
			got, wanted := x.call()
			if got != wanted {
				t.Fatalf("seed %d, call %d: %v, want %v", seed, n, got, wanted)
			}
			answers[got]++
			x.tells(t, x.s, x.d)
			segments = max(segments, len(look(x.d).segments()))
		}
	}
	for _, e := range []api.Errno{api.OK, api.ErrArg, api.ErrFull, api.ErrCart, api.ErrItems, api.ErrKey} {
		if answers[e] < 50 {
			t.Errorf("only %d calls answered %v", answers[e], e)
		}
	}
	if segments < 2 {
		t.Error("no log came to a second segment")
	}
}

func TestP9_4Sync(t *testing.T) {
	s, d := empty(t)
	put(t, s, "a", sample())
	ok(t, "Hint", s.Hint(hint(1, "a")))
	ok(t, "Sync", s.Sync())
	synced := framesOf(startsOf(1), cartOf("a", sample()), hintOf(hint(1, "a")))
	put(t, s, "b", sample())
	ok(t, "Retire", s.Retire("a", mark(7, 1, 1)))
	if f := look(d)["log.1"]; f.synced != len(synced) || f.bytes[:f.synced] != synced {
		t.Fatalf("%v", f)
	}
	ok(t, "Crash", d.Crash(nil))
	s = open(t, d)
	if !slices.Equal(s.Keys(), []string{"a"}) || len(s.Hints()) != 1 || len(s.Retired("a")) != 0 {
		t.Errorf("behind a crash: %s", tell(s))
	}
	ok(t, "Sync of nothing new", s.Sync())
}

// A change of the segment syncs the one that is full, and nothing else does.
func TestP9_4Segments(t *testing.T) {
	s, d := empty(t)
	for i := 0; len(look(d)) < 4; i++ {
		was := look(d)
		put(t, s, "k"+strconv.Itoa(i), fullest())
		now := look(d)
		for name, f := range now {
			switch {
			case len(now) > len(was) && was[name].bytes != "" && f.synced != len(f.bytes):
				t.Fatalf("%s is full, and not synced", name)
			case len(now) == len(was) && f.synced != was[name].synced:
				t.Fatalf("a Put syncs %s", name)
			}
		}
	}
	if s.Bytes() != len(look(d).log()) || s.Bytes() < 3*api.Segment {
		t.Errorf("%d bytes", s.Bytes())
	}
}

func TestP9_4Compact(t *testing.T) {
	s, d := empty(t)
	s = open(t, d)
	ok(t, "Compact of nothing", s.Compact())
	is := func(number string, records ...string) {
		t.Helper()
		text := framesOf(append([]string{""}, records...)...)
		if now := look(d); !maps.Equal(now, image{number: {text, len(text)}}) {
			t.Fatalf("%v, want %q", now, records)
		}
		if s.Bytes() != len(text) {
			t.Errorf("%d bytes, want %d", s.Bytes(), len(text))
		}
	}
	is("log.2", startsOf(2))
	for _, key := range []string{"b", "c", "a", "gone"} {
		put(t, s, key, known(mark(1, 1, 1)))
		put(t, s, key, one("milk", mark(2, 1, 1), 2))
	}
	ok(t, "Drop", s.Drop("gone"))
	ok(t, "Drop", s.Drop("b"))
	for _, m := range []api.Mark{mark(3, 1, 1), mark(1, 2, 1), mark(1, 1, 4)} {
		ok(t, "Retire", s.Retire("c", m))
		ok(t, "Retire", s.Retire("b", m))
	}
	for _, h := range []api.Hint{hint(3, "a"), hint(1, "z"), hint(3, "B"), hint(2, "a")} {
		ok(t, "Hint", s.Hint(h))
	}
	ok(t, "Unhint", s.Unhint(hint(2, "a")))
	told := tell(s)
	ok(t, "Compact", s.Compact())
	milk := one("milk", mark(2, 1, 1), 2)
	records := []string{
		startsOf(2),
		retireOf("b", mark(1, 1, 4)), retireOf("b", mark(1, 2, 1)), retireOf("b", mark(3, 1, 1)),
		retireOf("c", mark(1, 1, 4)), retireOf("c", mark(1, 2, 1)), retireOf("c", mark(3, 1, 1)),
		cartOf("a", cart([]api.Mark{mark(1, 1, 1), mark(2, 1, 1)}, milk.Entries...)), cartOf("c", milk),
		hintOf(hint(1, "z")), hintOf(hint(3, "B")), hintOf(hint(3, "a")),
	}
	is("log.3", records...)
	if tell(s) != told || s.Starts() != 2 {
		t.Errorf("behind Compact: %s, want %s", tell(s), told)
	}
	ok(t, "Compact again", s.Compact())
	is("log.4", records...)
	ok(t, "Crash", d.Crash(nil))
	s = open(t, d)
	if tell(s) != told || s.Starts() != 3 {
		t.Errorf("behind an opening: %s, want %s", tell(s), told)
	}
	put(t, s, "b", api.Cart{})
	if log := look(d).log(); log != framesOf(append(append([]string{""}, records...), startsOf(3), cartOf("b", api.Cart{}))...) {
		t.Errorf("what comes behind: %q", log)
	}
}

func TestP9_4CompactErrors(t *testing.T) {
	small := framesOf(startsOf(1), cartOf("a", sample()))
	for more := range len(small) + 10 {
		d := room(len(small) + more)
		s := open(t, d)
		put(t, s, "a", sample())
		if more >= len(small)+5 { // a frame without a payload stands ahead
			ok(t, "Compact", s.Compact())
			has(t, s, "a", sample())
			continue
		}
		unchanged(t, s, d, "without room", func() { want(t, "Compact", s.Compact(), api.ErrFull) })
	}
	d := room(1 << 16)
	d.Append("log.999999999", []byte(framesOf(cartOf("a", sample()))))
	s := open(t, d)
	put(t, s, "b", sample())
	unchanged(t, s, d, "without a number for a segment", func() { want(t, "Compact", s.Compact(), api.ErrLog) })
	has(t, s, "b", sample())
}

func TestP9_6Compacted(t *testing.T) {
	for seed := range uint64(40) {
		x := throw(t, 600+seed, api.MaxRoom)
		for range 30 {
			for range 6 {
				x.call()
			}
			told, starts := tell(x.s), x.s.Starts()
			ok(t, "Compact", x.s.Compact())
			if now := tell(x.s); now != told || x.s.Starts() != starts {
				t.Fatalf("behind Compact %s, ahead %s", now, told)
			}
			d := x.d.Copy()
			s := open(t, d)
			if now := tell(s); now != told || s.Starts() != starts+1 {
				t.Fatalf("behind Compact and Open %s, ahead %s", now, told)
			}
			ok(t, "Compact", s.Compact())
			if now := tell(s); now != told {
				t.Fatalf("behind Compact, Open and Compact %s, ahead %s", now, told)
			}
		}
	}
}
