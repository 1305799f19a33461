package kvstore_test

import (
	"slices"
	"strconv"
	"testing"

	"trolley/api"
)

func TestP9_3Hints(t *testing.T) {
	s, d := empty(t)
	if l := s.Hints(); len(l) != 0 {
		t.Errorf("no hints: %v", l)
	}
	hints := []api.Hint{hint(7, "a"), hint(0, "b"), hint(0, "a"), hint(3, "B"), hint(3, "a"), hint(3, longestName()), hint(3, "aa")}
	var log []string
	for _, h := range hints {
		ok(t, "Hint", s.Hint(h))
		log = append(log, hintOf(h))
	}
	holds(t, d, log...)
	rising := []api.Hint{hint(0, "a"), hint(0, "b"), hint(3, "B"), hint(3, "a"), hint(3, "aa"), hint(3, longestName()), hint(7, "a")}
	if l := s.Hints(); !slices.Equal(l, rising) {
		t.Errorf("%v", l)
	}
	unchanged(t, s, d, "hints that are kept", func() {
		for _, h := range hints {
			ok(t, "Hint again", s.Hint(h))
		}
	})
	ok(t, "Unhint", s.Unhint(hint(3, "a")))
	ok(t, "Unhint", s.Unhint(hint(0, "a")))
	if l := s.Hints(); !slices.Equal(l, []api.Hint{hint(0, "b"), hint(3, "B"), hint(3, "aa"), hint(3, longestName()), hint(7, "a")}) {
		t.Errorf("%v", l)
	}
	ok(t, "Hint", s.Hint(hint(0, "a")))
	holds(t, d, append(log, unhintOf(hint(3, "a")), unhintOf(hint(0, "a")), hintOf(hint(0, "a")))...)
	if look(d)["log.1"].synced != len(framesOf(startsOf(1))) {
		t.Error("a hint syncs")
	}
}

func TestP9_3WrongHints(t *testing.T) {
	s, d := empty(t)
	ok(t, "Hint", s.Hint(hint(1, "a")))
	unchanged(t, s, d, "wrong hints", func() {
		for _, owner := range wrongOwners() {
			want(t, "the owner "+strconv.Itoa(owner), s.Hint(hint(owner, "a")), api.ErrArg)
			want(t, "the owner "+strconv.Itoa(owner)+", and no name", s.Hint(hint(owner, "")), api.ErrArg)
			want(t, "Unhint of it", s.Unhint(hint(owner, "a")), api.ErrKey)
		}
		for _, key := range wrongNames() {
			want(t, "the key "+strconv.Quote(key[:min(len(key), 40)]), s.Hint(hint(1, key)), api.ErrName)
			want(t, "Unhint of it", s.Unhint(hint(1, key)), api.ErrKey)
		}
		for _, h := range []api.Hint{hint(2, "a"), hint(0, "a"), hint(1, "b"), hint(1, "A"), hint(1, longestName())} {
			want(t, "Unhint of one that is not kept", s.Unhint(h), api.ErrKey)
		}
	})
	for owner := range api.MaxNodes {
		for _, key := range rightNames() {
			ok(t, "Hint", s.Hint(hint(owner, key)))
		}
	}
	if n := len(s.Hints()); n != api.MaxNodes*len(rightNames())+1 {
		t.Errorf("%d hints", n)
	}
}

func TestP9_3AsManyHintsAsMayBe(t *testing.T) {
	s, d := empty(t)
	for i := range api.MaxHints {
		ok(t, "Hint "+strconv.Itoa(i), s.Hint(hint(i%8, "k"+strconv.Itoa(i))))
	}
	unchanged(t, s, d, "one more", func() {
		want(t, "one more", s.Hint(hint(0, "more")), api.ErrFull)
		want(t, "one more of a key that has one", s.Hint(hint(1, "k0")), api.ErrFull)
		want(t, "one that is kept", s.Hint(hint(0, "k0")), api.OK)
		want(t, "a wrong owner comes first", s.Hint(hint(8, "more")), api.ErrArg)
		want(t, "a wrong key comes first", s.Hint(hint(0, "")), api.ErrName)
	})
	s = open(t, d)
	want(t, "one more, behind an opening", s.Hint(hint(0, "more")), api.ErrFull)
	ok(t, "Unhint", s.Unhint(hint(3, "k3")))
	ok(t, "one in its place", s.Hint(hint(0, "more")))
	want(t, "one more then", s.Hint(hint(3, "k3")), api.ErrFull)
	if n := len(s.Hints()); n != api.MaxHints {
		t.Errorf("%d hints", n)
	}
}

func TestP9_3Retire(t *testing.T) {
	s, d := empty(t)
	if l := s.Retired("a"); len(l) != 0 {
		t.Errorf("nothing is retired: %v", l)
	}
	marks := []api.Mark{mark(2, 5, 1), mark(0, 9, 3), mark(7, 1, 1), mark(0, 2, 4), mark(0, api.MaxLife, api.MaxCount), mark(2, 4, 9)}
	var log []string
	for _, m := range marks {
		ok(t, "Retire", s.Retire("a", m))
		log = append(log, retireOf("a", m))
	}
	ok(t, "Retire", s.Retire("b", mark(0, 2, 8)))
	holds(t, d, append(log, retireOf("b", mark(0, 2, 8)))...)
	rising := []api.Mark{mark(0, 2, 4), mark(0, 9, 3), mark(0, api.MaxLife, api.MaxCount), mark(2, 4, 9), mark(2, 5, 1), mark(7, 1, 1)}
	if l := s.Retired("a"); !slices.Equal(l, rising) {
		t.Errorf("%v", l)
	}
	if l := s.Retired("b"); !slices.Equal(l, []api.Mark{mark(0, 2, 8)}) {
		t.Errorf("%v", l)
	}
	unchanged(t, s, d, "actors that are retired", func() {
		for _, count := range []int{1, 3, 4, 5, api.MaxCount} {
			ok(t, "Retire again", s.Retire("a", mark(0, 2, count)))
		}
		for _, key := range append(wrongNames(), "c", "A") {
			if l := s.Retired(key); len(l) != 0 {
				t.Errorf("Retired of %q: %v", key, l)
			}
		}
	})
	if len(s.Keys()) != 0 {
		t.Errorf("a mark makes a cart: %v", s.Keys())
	}
	if look(d)["log.1"].synced != len(framesOf(startsOf(1))) {
		t.Error("a Retire syncs")
	}
}

func TestP9_3WrongMarks(t *testing.T) {
	s, d := empty(t)
	put(t, s, "a", sample())
	unchanged(t, s, d, "wrong marks", func() {
		for _, m := range wrongMarks() {
			want(t, "a mark that may not be", s.Retire("a", m), api.ErrArg)
			want(t, "a mark that may not be, without a cart", s.Retire("b", m), api.ErrArg)
			want(t, "nor the name", s.Retire("", m), api.ErrName)
		}
		for _, key := range wrongNames() {
			want(t, "a name that may not be", s.Retire(key, mark(0, 1, 1)), api.ErrName)
		}
	})
	for _, key := range rightNames() {
		for _, m := range rightMarks()[1:] {
			ok(t, "Retire", s.Retire(key, m))
		}
	}
	// Of an actor that is retired a mark that may not be is an error all the same.
	for _, count := range []int{0, -1, api.MaxCount + 1} {
		want(t, "a count", s.Retire("k", mark(7, 1, count)), api.ErrArg)
	}
}

func TestP9_3RetireInACart(t *testing.T) {
	milk := entry("milk", dot(0, 1, 2), 1)
	bread := entry("bread", dot(1, 1, 1), 1)
	all := []api.Mark{mark(0, 1, 2), mark(0, 2, 4), mark(1, 1, 1)}
	apart := api.Cart{Entries: []api.Entry{bread}, Ctx: api.Context{Marks: all, Cloud: []api.Dot{dot(0, 2, 7), dot(3, 1, 9)}}}
	left := api.Cart{Entries: apart.Entries, Ctx: api.Context{Marks: []api.Mark{all[0], all[2]}, Cloud: []api.Dot{dot(3, 1, 9)}}}
	cases := []struct {
		cart   api.Cart
		m      api.Mark
		pruned api.Cart
		want   api.Errno
	}{
		{api.Cart{}, mark(0, 1, 1), api.Cart{}, api.OK},
		{known(mark(0, 1, 2)), mark(0, 1, 2), api.Cart{}, api.OK},
		{known(mark(0, 1, 2)), mark(0, 1, 3), api.Cart{}, api.OK},
		{known(mark(0, 1, 2)), mark(0, 1, api.MaxCount), api.Cart{}, api.OK},
		{known(mark(0, 1, 2)), mark(0, 1, 1), api.Cart{}, api.ErrCart},
		{known(mark(0, 1, 2)), mark(0, 2, 1), known(mark(0, 1, 2)), api.OK},
		{known(mark(0, 1, 2)), mark(1, 1, 1), known(mark(0, 1, 2)), api.OK},
		{cart(all, bread), mark(0, 1, 2), cart(all[1:], bread), api.OK},
		{cart(all, bread), mark(0, 2, 4), cart([]api.Mark{all[0], all[2]}, bread), api.OK},
		{cart(all, bread), mark(1, 1, 1), api.Cart{}, api.ErrCart},
		{cart(all, bread), mark(1, 1, 9), api.Cart{}, api.ErrCart},
		{cart(all, bread, milk), mark(0, 1, 2), api.Cart{}, api.ErrCart},
		{cart(all, bread, milk), mark(0, 1, 9), api.Cart{}, api.ErrCart},
		{apart, mark(0, 2, 4), api.Cart{}, api.ErrCart},
		{apart, mark(0, 2, 6), api.Cart{}, api.ErrCart},
		{apart, mark(0, 2, 7), left, api.OK},
		{apart, mark(3, 1, 8), api.Cart{}, api.ErrCart},
	}
	for i, x := range cases {
		s, d := empty(t)
		put(t, s, "a", x.cart)
		put(t, s, "b", x.cart)
		if x.want != api.OK {
			unchanged(t, s, d, "case "+strconv.Itoa(i), func() { want(t, "case "+strconv.Itoa(i), s.Retire("a", x.m), x.want) })
			continue
		}
		ok(t, "case "+strconv.Itoa(i), s.Retire("a", x.m))
		has(t, s, "a", x.pruned)
		has(t, s, "b", x.cart)
		holds(t, d, cartOf("a", x.cart), cartOf("b", x.cart), retireOf("a", x.m))
		if l := s.Retired("a"); !slices.Equal(l, []api.Mark{x.m}) {
			t.Errorf("case %d: %v", i, l)
		}
	}
}

// An actor that is retired is not looked for in the cart once more: its mark has been enough.
func TestP9_3RetiredAlready(t *testing.T) {
	s, d := empty(t)
	put(t, s, "a", known(mark(0, 1, 5)))
	want(t, "a mark below", s.Retire("a", mark(0, 1, 4)), api.ErrCart)
	ok(t, "the mark", s.Retire("a", mark(0, 1, 5)))
	unchanged(t, s, d, "marks below and above", func() {
		ok(t, "a mark below", s.Retire("a", mark(0, 1, 4)))
		ok(t, "a mark above", s.Retire("a", mark(0, 1, 9)))
		_, e := s.Put("a", known(mark(0, 1, 6)))
		want(t, "a cart with a dot above the first mark", e, api.ErrCart)
	})
}

func TestP9_3Clean(t *testing.T) {
	s, d := empty(t)
	ok(t, "Retire", s.Retire("a", mark(0, 1, 5)))
	put(t, s, "a", known(mark(1, 1, 1)))
	unchanged(t, s, d, "Clean", func() {
		for _, key := range wrongNames() {
			for _, c := range []api.Cart{sample(), wrongCarts()[0].cart} {
				got, e := s.Clean(key, c)
				want(t, "a name that may not be", e, api.ErrName)
				is(t, "Clean", got, api.Cart{})
			}
		}
		for i, x := range wrongCarts() {
			got, e := s.Clean("a", x.cart)
			want(t, "the wrong cart "+strconv.Itoa(i), e, x.want)
			is(t, "Clean", got, api.Cart{})
		}
		for _, c := range []api.Cart{{}, sample(), fullest(), known(mark(0, 1, 6))} {
			got, e := s.Clean("b", c)
			ok(t, "a key without marks", e)
			is(t, "a key without marks", got, c)
		}
		got, e := s.Clean("a", known(mark(0, 1, 6)))
		want(t, "a dot above the mark", e, api.ErrCart)
		is(t, "a dot above the mark", got, api.Cart{})
		got, e = s.Clean("a", sample()) // which is not joined with what is there
		ok(t, "a cart", e)
		is(t, "a cart", got, one("milk", mark(2, 5, 1), 3))
		again, e := s.Clean("a", got)
		ok(t, "Clean again", e)
		is(t, "Clean again", again, got)
	})
}
