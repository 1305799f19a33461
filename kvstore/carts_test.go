package kvstore_test

import (
	"slices"
	"strconv"
	"testing"

	"trolley/api"
	"trolley/causal"
	"trolley/ormap"
)

func TestP9_2PutAndGet(t *testing.T) {
	s, d := empty(t)
	milk, bread := one("milk", mark(0, 1, 1), 2), one("bread", mark(1, 1, 1), 3)
	both := cart([]api.Mark{mark(0, 1, 1), mark(1, 1, 1)}, bread.Entries[0], milk.Entries[0])
	is(t, "the first Put", put(t, s, "a", milk), milk)
	is(t, "a second one", put(t, s, "a", bread), both)
	is(t, "another key's", put(t, s, "b", bread), bread)
	has(t, s, "a", both)
	has(t, s, "b", bread)
	holds(t, d, cartOf("a", milk), cartOf("a", bread), cartOf("b", bread))

	taken := known(mark(0, 1, 2))
	is(t, "taken out", put(t, s, "a", taken), cart([]api.Mark{mark(0, 1, 2), mark(1, 1, 1)}, bread.Entries[0]))
	is(t, "an empty cart", put(t, s, "c", api.Cart{}), api.Cart{})
	has(t, s, "c", api.Cart{})
	is(t, "the fullest one", put(t, s, longestName(), fullest()), fullest())
	holds(t, d, cartOf("a", milk), cartOf("a", bread), cartOf("b", bread), cartOf("a", taken), cartOf("c", api.Cart{}), cartOf(longestName(), fullest()))
	if look(d)["log.1"].synced != len(framesOf(startsOf(1))) {
		t.Error("a Put syncs")
	}
}

func TestP9_2NoSuchCart(t *testing.T) {
	s, d := empty(t)
	put(t, s, "a", sample())
	put(t, s, "gone", sample())
	ok(t, "Drop", s.Drop("gone"))
	ok(t, "Hint", s.Hint(hint(0, "hinted")))
	ok(t, "Retire", s.Retire("retired", mark(0, 1, 1)))
	unchanged(t, s, d, "carts that are not there", func() {
		for _, key := range append(wrongNames(), "b", "A", "gone", "hinted", "retired", longestName()) {
			c, e := s.Get(key)
			want(t, "Get of "+strconv.Quote(key), e, api.ErrKey)
			is(t, "Get of "+strconv.Quote(key), c, api.Cart{})
			want(t, "Drop of "+strconv.Quote(key), s.Drop(key), api.ErrKey)
		}
	})
}

func TestP9_2Names(t *testing.T) {
	s, d := empty(t)
	for _, key := range rightNames() {
		put(t, s, key, sample())
		has(t, s, key, sample())
	}
	unchanged(t, s, d, "names that may not be", func() {
		for _, key := range wrongNames() {
			for _, c := range []api.Cart{{}, sample(), wrongCarts()[0].cart} {
				got, e := s.Put(key, c)
				want(t, "Put of "+strconv.Quote(key[:min(len(key), 40)]), e, api.ErrName)
				is(t, "Put", got, api.Cart{})
			}
		}
	})
}

func TestP9_2WrongCarts(t *testing.T) {
	s, d := empty(t)
	put(t, s, "a", sample())
	ok(t, "Retire", s.Retire("a", mark(3, 1, 1)))
	unchanged(t, s, d, "carts that can't be", func() {
		for i, x := range wrongCarts() {
			for _, key := range []string{"a", "new"} { // the first one has no room for dots of 3, 1
				got, e := s.Put(key, x.cart)
				want(t, "the wrong cart "+strconv.Itoa(i), e, x.want)
				is(t, "the wrong cart "+strconv.Itoa(i), got, api.Cart{})
			}
		}
		_, e := s.Put("a", cart([]api.Mark{mark(3, 1, 1)}, slices.Repeat([]api.Entry{entry("milk", dot(3, 1, 1), 1)}, 1<<20)...))
		want(t, "very many entries", e, api.ErrItems)
	})
}

// A cart with dots of a retired actor is put without them, or not at all.
func TestP9_2Retired(t *testing.T) {
	m := mark(0, 1, 3)
	bread := one("bread", mark(1, 1, 1), 3)
	cases := []struct {
		put, cleaned api.Cart
		want         api.Errno
	}{
		{known(m), api.Cart{}, api.OK},
		{one("milk", m, 1), api.Cart{}, api.OK},
		{one("milk", mark(0, 1, 1), 1), api.Cart{}, api.OK},
		{beside(dot(0, 1, 3)), api.Cart{}, api.OK},
		{cart([]api.Mark{m, mark(1, 1, 1)}, bread.Entries[0], entry("milk", dot(0, 1, 2), 7)), bread, api.OK},
		{known(mark(0, 2, 4)), known(mark(0, 2, 4)), api.OK},
		{known(mark(1, 1, 4)), known(mark(1, 1, 4)), api.OK},
		{known(mark(5, 5, 5)), api.Cart{}, api.OK},
		{known(mark(0, 1, 4)), api.Cart{}, api.ErrCart},
		{known(mark(0, 1, api.MaxCount)), api.Cart{}, api.ErrCart},
		{known(m, mark(5, 5, 6)), api.Cart{}, api.ErrCart},
		{known(mark(0, 1, 4), mark(5, 5, 5)), api.Cart{}, api.ErrCart},
		{beside(dot(0, 1, 4)), api.Cart{}, api.ErrCart},
		{api.Cart{Ctx: api.Context{Marks: []api.Mark{mark(0, 1, 1)}, Cloud: []api.Dot{dot(0, 1, 3), dot(0, 1, 5)}}}, api.Cart{}, api.ErrCart},
		{one("milk", mark(0, 1, 4), 1), api.Cart{}, api.ErrCart},
	}
	for i, x := range cases {
		s, d := empty(t)
		ok(t, "Retire", s.Retire("a", m))
		ok(t, "Retire", s.Retire("a", mark(5, 5, 5)))
		cleaned, e := s.Clean("a", x.put)
		want(t, "Clean of case "+strconv.Itoa(i), e, x.want)
		is(t, "Clean of case "+strconv.Itoa(i), cleaned, x.cleaned)
		if x.want != api.OK {
			unchanged(t, s, d, "case "+strconv.Itoa(i), func() {
				c, e := s.Put("a", x.put)
				want(t, "Put of case "+strconv.Itoa(i), e, x.want)
				is(t, "Put of case "+strconv.Itoa(i), c, api.Cart{})
			})
		} else {
			is(t, "Put of case "+strconv.Itoa(i), put(t, s, "a", x.put), x.cleaned)
			has(t, s, "a", x.cleaned)
			holds(t, d, retireOf("a", m), retireOf("a", mark(5, 5, 5)), cartOf("a", x.cleaned))
		}
		is(t, "another key's", put(t, s, "b", x.put), x.put)
	}
}

// Two carts that can't be joined: the error is ormap's, and what there is stays.
func TestP9_2NoJoin(t *testing.T) {
	tooMany := api.MaxItems/2 + 1
	cases := []struct {
		first, second api.Cart
		want          api.Errno
	}{
		{one("milk", mark(0, 1, 1), 1), one("milk", mark(0, 1, 1), 2), api.ErrCart},
		{one("milk", mark(0, 1, 1), 1), one("bread", mark(0, 1, 1), 1), api.ErrCart},
		{wide(0, tooMany), wide(1, tooMany), api.ErrItems},
		{lives(0, 1, api.MaxMarks), lives(0, 2, api.MaxMarks), api.ErrLong},
	}
	for i, x := range cases {
		s, d := empty(t)
		put(t, s, "a", x.first)
		unchanged(t, s, d, "case "+strconv.Itoa(i), func() {
			c, e := s.Put("a", x.second)
			want(t, "case "+strconv.Itoa(i), e, x.want)
			is(t, "case "+strconv.Itoa(i), c, api.Cart{})
		})
		ok(t, "Drop", s.Drop("a"))
		is(t, "with nothing there", put(t, s, "a", x.second), x.second)
	}
	// Cleaned carts are joined, where those that are handed in could not be.
	s, _ := empty(t)
	put(t, s, "a", lives(0, 1, api.MaxMarks))
	ok(t, "Retire", s.Retire("a", mark(0, 1, 1)))
	ok(t, "Retire", s.Retire("a", mark(0, 200, 1)))
	is(t, "cleaned, and joined", put(t, s, "a", known(mark(0, 1, 1), mark(0, 65, 1), mark(0, 200, 1))), lives(0, 2, api.MaxMarks))
}

func TestP9_2Drop(t *testing.T) {
	s, d := empty(t)
	put(t, s, "a", sample())
	put(t, s, "b", sample())
	ok(t, "Hint", s.Hint(hint(3, "a")))
	ok(t, "Retire", s.Retire("a", mark(6, 1, 1)))
	ok(t, "Drop", s.Drop("a"))
	if !slices.Equal(s.Keys(), []string{"b"}) || !slices.Equal(s.Hints(), []api.Hint{hint(3, "a")}) || !slices.Equal(s.Retired("a"), []api.Mark{mark(6, 1, 1)}) {
		t.Errorf("behind Drop: %s", tell(s))
	}
	want(t, "Drop again", s.Drop("a"), api.ErrKey)
	log := []string{cartOf("a", sample()), cartOf("b", sample()), hintOf(hint(3, "a")), retireOf("a", mark(6, 1, 1)), dropOf("a")}
	holds(t, d, log...)
	c := cart([]api.Mark{mark(5, 1, 1), mark(6, 1, 1)}, entry("milk", dot(6, 1, 1), 1))
	is(t, "behind Drop", put(t, s, "a", c), known(mark(5, 1, 1)))
	holds(t, d, append(log, cartOf("a", known(mark(5, 1, 1))))...)
}

func TestP9_2Keys(t *testing.T) {
	s, _ := empty(t)
	if keys := s.Keys(); len(keys) != 0 {
		t.Errorf("no carts: %v", keys)
	}
	for _, key := range []string{"b", "a", "B", "_", "-", ".", "aa", "10", "9", "a.", longestName()} {
		put(t, s, key, api.Cart{})
	}
	if keys := s.Keys(); !slices.Equal(keys, []string{"-", ".", "10", "9", "B", "_", "a", "a.", "aa", "b", longestName()}) {
		t.Errorf("%v", keys)
	}
}

// With no room each call that would write a record answers so, and changes nothing; those that write none do not need it.
func TestP9_2NoRoom(t *testing.T) {
	records := []string{startsOf(1), cartOf("a", sample()), hintOf(hint(1, "a")), retireOf("a", mark(6, 1, 1))}
	log := framesOf(records...)
	for more := range 4 {
		d := room(len(log) + len(framesOf(startsOf(2))) + more)
		d.Append("log.1", []byte(log))
		s := open(t, d)
		unchanged(t, s, d, "without room", func() {
			c, e := s.Put("a", known(mark(7, 1, 1)))
			want(t, "Put", e, api.ErrFull)
			is(t, "Put", c, api.Cart{})
			_, e = s.Put("b", sample())
			want(t, "Put of another key", e, api.ErrFull)
			want(t, "Drop", s.Drop("a"), api.ErrFull)
			want(t, "Hint", s.Hint(hint(2, "a")), api.ErrFull)
			want(t, "Unhint", s.Unhint(hint(1, "a")), api.ErrFull)
			want(t, "Retire", s.Retire("a", mark(6, 2, 1)), api.ErrFull)
			want(t, "Compact", s.Compact(), api.ErrFull)

			is(t, "what is there already", put(t, s, "a", sample()), sample())
			ok(t, "a hint that is kept", s.Hint(hint(1, "a")))
			ok(t, "an actor that is retired", s.Retire("a", mark(6, 1, 2)))
			_, e = s.Put("a", known(mark(6, 1, 2)))
			want(t, "a cart that can't be cleaned", e, api.ErrCart)
			_, e = s.Put("a", wrongCarts()[0].cart)
			want(t, "a cart that can't be", e, wrongCarts()[0].want)
			want(t, "Drop of none", s.Drop("b"), api.ErrKey)
		})
		ok(t, "Sync", s.Sync())
	}
}

// A record that has room just so.
func TestP9_2JustRoom(t *testing.T) {
	start, rec := framesOf(startsOf(1)), framesOf(cartOf("a", sample()))
	for _, n := range []int{len(start) + len(rec) - 1, len(start) + len(rec)} {
		d := room(n)
		s := open(t, d)
		c, e := s.Put("a", sample())
		if n < len(start)+len(rec) {
			want(t, "one byte too few", e, api.ErrFull)
			is(t, "one byte too few", c, api.Cart{})
			continue
		}
		want(t, "just enough", e, api.OK)
		has(t, s, "a", sample())
	}
}

// Get is the join of all that was put since the last Drop, without retired actors: thrown carts of a few histories.
func TestP9_7Joined(t *testing.T) {
	lives, gone := 0, 0
	for seed := range uint64(40) {
		g := &dice{x: 97 + seed}
		pool := g.carts(t, 40)
		s, d := empty(t)
		marks := tops(pool)
		expect := api.Cart{}
		there, retired := false, map[api.Mark]bool{}
		for range 120 {
			switch n := g.below(20); {
			case n < 2:
				want(t, "Drop", s.Drop("k"), dropped(there))
				expect, there = api.Cart{}, false
			case n < 5:
				m := marks[g.below(len(marks))]
				if s.Retire("k", m) == api.OK {
					retired[m] = true
					expect = ormap.Prune(expect, api.Actor{Node: m.Node, Life: m.Life})
				}
			case n < 7:
				s = open(t, d)
			default:
				c := pool[g.below(len(pool))]
				joined, e := ormap.Join(expect, without(c, retired))
				ok(t, "Join", e)
				is(t, "Put", put(t, s, "k", c), joined)
				expect, there = joined, true
			}
			if there {
				has(t, s, "k", expect)
			}
		}
		lives, gone = lives+len(expect.Entries), gone+len(retired)
	}
	if lives < 20 || gone < 60 {
		t.Errorf("%d entries at the end, %d actors were retired", lives, gone)
	}
}

func dropped(there bool) api.Errno {
	if there {
		return api.OK
	}
	return api.ErrKey
}

func without(c api.Cart, retired map[api.Mark]bool) api.Cart {
	for m := range retired {
		c = ormap.Prune(c, api.Actor{Node: m.Node, Life: m.Life})
	}
	return c
}

// carts are those that updates of a few actors make one out of others.
func (g *dice) carts(t *testing.T, n int) []api.Cart {
	pool := []api.Cart{{}}
	counts := map[api.Actor]int{}
	for len(pool) < n {
		a := api.Actor{Node: g.below(3), Life: 1 + g.below(2)}
		counts[a]++
		u := api.Update{Key: "k", Dot: dot(a.Node, a.Life, counts[a]), Item: []string{"milk", "bread", "tea"}[g.below(3)], Qty: g.below(4), Seen: pool[g.below(len(pool))]}
		c, e := ormap.Apply(u)
		ok(t, "Apply", e)
		if g.below(2) == 0 {
			c, e = ormap.Join(c, pool[g.below(len(pool))])
			ok(t, "Join", e)
		}
		pool = append(pool, c)
	}
	return pool
}

// tops are of each actor the greatest mark that carts have of it.
func tops(pool []api.Cart) []api.Mark {
	var l []api.Mark
	for node := range 3 {
		for life := 1; life <= 2; life++ {
			top := 1
			for _, c := range pool {
				top = max(top, causal.Top(c.Ctx, api.Actor{Node: node, Life: life}))
			}
			l = append(l, mark(node, life, top))
		}
	}
	return l
}

// Put of a cart again writes nothing, nor does Put of what it was joined to, or of less.
func TestP9_8Twice(t *testing.T) {
	g := &dice{x: 98}
	for range 30 {
		s, d := empty(t)
		pool := g.carts(t, 20)
		for _, c := range pool {
			joined := put(t, s, "k", c)
			unchanged(t, s, d, "a Put again", func() {
				is(t, "Put again", put(t, s, "k", c), joined)
				is(t, "Put of the join", put(t, s, "k", joined), joined)
				is(t, "Put of the empty cart", put(t, s, "k", api.Cart{}), joined)
			})
		}
	}
	s, d := empty(t)
	put(t, s, "k", api.Cart{})
	unchanged(t, s, d, "the empty cart again", func() { put(t, s, "k", api.Cart{Entries: []api.Entry{}}) })
	ok(t, "Retire", s.Retire("k", mark(0, 1, 3)))
	unchanged(t, s, d, "a cart that is cleaned to what is there", func() { put(t, s, "k", one("milk", mark(0, 1, 3), 1)) })
	s = open(t, d)
	unchanged(t, s, d, "behind an opening", func() { put(t, s, "k", known(mark(0, 1, 1))) })
}
