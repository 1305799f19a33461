package kvstore_test

import (
	"slices"
	"strconv"
	"sync"
	"testing"

	"trolley/api"
	"trolley/kvstore"
)

func TestNoStore(t *testing.T) {
	for name, s := range map[string]*kvstore.Store{"nil": nil, "plain": {}, "new": new(kvstore.Store)} {
		_, get := s.Get("a")
		for _, key := range []string{"a", ""} {
			for _, c := range []api.Cart{sample(), wrongCarts()[0].cart} {
				for _, call := range []func(string, api.Cart) (api.Cart, api.Errno){s.Put, s.Clean} {
					got, e := call(key, c)
					want(t, name+": a cart", e, api.ErrNil)
					is(t, name+": a cart", got, api.Cart{})
				}
			}
		}
		calls := []api.Errno{
			get, s.Drop("a"), s.Drop(""), s.Hint(hint(1, "a")), s.Hint(hint(8, "")), s.Unhint(hint(1, "a")),
			s.Retire("a", mark(0, 1, 1)), s.Retire("", mark(0, 1, 1)), s.Retire("a", api.Mark{}), s.Sync(), s.Compact(),
		}
		for i, e := range calls {
			want(t, name+": call "+strconv.Itoa(i), e, api.ErrNil)
		}
		if s.Starts() != 0 || s.Bytes() != 0 || s.Keys() != nil || s.Hints() != nil || s.Retired("a") != nil {
			t.Errorf("%s: it is no store", name)
		}
	}
}

// roomy is a cart whose lists have room behind their ends.
func roomy(c api.Cart) api.Cart {
	return api.Cart{
		Entries: append(make([]api.Entry, 0, len(c.Entries)+5), c.Entries...),
		Ctx: api.Context{
			Marks: append(make([]api.Mark, 0, len(c.Ctx.Marks)+5), c.Ctx.Marks...),
			Cloud: append(make([]api.Dot, 0, len(c.Ctx.Cloud)+5), c.Ctx.Cloud...),
		},
	}
}

// whole is a list with the room behind it.
func whole[T any](l []T) []T { return l[:cap(l)] }

// untouched tells whether a roomy cart is as it was, and the room behind its lists too.
func untouched(c, was api.Cart) bool {
	now, then := roomy(was), c
	return slices.Equal(whole(now.Entries)[:cap(then.Entries)], whole(then.Entries)) &&
		slices.Equal(whole(now.Ctx.Marks)[:cap(then.Ctx.Marks)], whole(then.Ctx.Marks)) &&
		slices.Equal(whole(now.Ctx.Cloud)[:cap(then.Ctx.Cloud)], whole(then.Ctx.Cloud))
}

func fill[T any](l []T, junk T) {
	for i := range whole(l) {
		whole(l)[i] = junk
	}
}

// spoil writes into all of a cart's memory.
func spoil(c api.Cart) {
	fill(c.Entries, entry("spoilt", dot(-7, -7, -7), -7))
	fill(c.Ctx.Marks, mark(-7, -7, -7))
	fill(c.Ctx.Cloud, dot(-7, -7, -7))
}

// Nothing that is handed in is changed or kept, and nothing that is answered is shared.
func TestMemoryOfCarts(t *testing.T) {
	s, d := empty(t)
	ok(t, "Retire", s.Retire("marked", mark(0, 1, 5)))
	left := one("milk", mark(2, 5, 1), 3)
	for key, kept := range map[string]api.Cart{"plain": sample(), "marked": left} {
		var answers []api.Cart
		for range 3 { // a new cart, what is there already, and a join
			c := roomy(sample())
			cleaned, e := s.Clean(key, c)
			ok(t, "Clean", e)
			answers = append(answers, cleaned, put(t, s, key, c))
			got, e := s.Get(key)
			ok(t, "Get", e)
			answers = append(answers, got)
			if !untouched(c, sample()) {
				t.Errorf("%s: what was handed in is another one", key)
			}
			spoil(c)
			has(t, s, key, kept)
		}
		for i, c := range answers {
			is(t, "an answer", c, kept)
			spoil(c)
			for _, other := range answers[i+1:] {
				is(t, "another answer", other, kept)
			}
			has(t, s, key, kept)
		}
		spoil(put(t, s, key, known(mark(7, 1, 1))))
		kept.Ctx.Marks = append(slices.Clone(kept.Ctx.Marks), mark(7, 1, 1))
		has(t, s, key, kept)
		has(t, open(t, d.Copy()), key, kept)
	}
}

func TestMemoryOfLists(t *testing.T) {
	s, d := empty(t)
	for _, key := range []string{"a", "b", "c"} {
		put(t, s, key, sample())
		ok(t, "Hint", s.Hint(hint(1, key)))
		ok(t, "Retire", s.Retire("a", mark(5, len(s.Hints()), 1)))
	}
	told := tell(s)
	for range 2 {
		fill(s.Keys(), "spoilt")
		fill(s.Hints(), hint(-7, "spoilt"))
		fill(s.Retired("a"), mark(-7, -7, -7))
		if now := tell(s); now != told {
			t.Fatalf("a spoilt answer spoils %s to %s", told, now)
		}
		ok(t, "Retire", s.Retire("a", mark(5, 9, 1)))
		told = tell(s)
	}
	if now := tell(open(t, d)); now != told {
		t.Errorf("%s, want %s", now, told)
	}
}

// Two stores on two disks know nothing of one another.
func TestTwoStores(t *testing.T) {
	a, da := empty(t)
	b, db := empty(t)
	put(t, a, "a", sample())
	unchanged(t, a, da, "another store's calls", func() {
		put(t, b, "a", known(mark(6, 1, 1)))
		ok(t, "Hint", b.Hint(hint(1, "a")))
		ok(t, "Retire", b.Retire("a", mark(0, 1, 9)))
		ok(t, "Compact", b.Compact())
		ok(t, "Wipe", db.Wipe())
	})
}

// Many may use a store at one time: what each of them does is there.
func TestGoroutines(t *testing.T) {
	s, d := empty(t)
	var all sync.WaitGroup
	for i := range 8 {
		all.Go(func() {
			for n := range 60 {
				key := "k" + strconv.Itoa(i) + "-" + strconv.Itoa(n%10)
				s.Put(key, known(mark(i, 1, 1+n)))
				s.Put("shared", known(mark(i, 1, 1+n)))
				s.Get("shared")
				s.Keys()
				s.Hint(hint(i, key))
				s.Hints()
				s.Retire(key, mark((i+1)%8, 1+n, 1))
				s.Retired(key)
				s.Clean(key, sample())
				s.Starts()
				s.Bytes()
				if n%20 == 0 {
					s.Sync()
					s.Compact()
					s.Unhint(hint(i, key))
					s.Drop(key)
				}
			}
		})
	}
	all.Wait()
	shared := api.Cart{}
	for i := range 8 {
		shared.Ctx.Marks = append(shared.Ctx.Marks, mark(i, 1, 60))
	}
	has(t, s, "shared", shared)
	if len(s.Keys()) != 1+8*10 || len(s.Hints()) != 8*10 {
		t.Errorf("%d keys, %d hints", len(s.Keys()), len(s.Hints()))
	}
	told := tell(s)
	if now := tell(open(t, d)); now != told {
		t.Errorf("opened again: %s, want %s", now, told)
	}
}

func TestExamplesOfTheDocument(t *testing.T) {
	d := room(1 << 16)
	for _, starts := range []int{1, 2} {
		if s := open(t, d); s.Starts() != starts {
			t.Errorf("Starts %d, want %d", s.Starts(), starts)
		}
	}
	ok(t, "Wipe", d.Wipe())
	s := open(t, d)
	if s.Starts() != 1 {
		t.Errorf("behind a wipe Starts %d", s.Starts())
	}
	milk, taken := one("milk", mark(0, 1, 1), 2), known(mark(0, 1, 1), mark(1, 1, 1))
	put(t, s, "cart", milk)
	put(t, s, "cart", taken)
	ok(t, "Retire", s.Retire("cart", mark(0, 1, 1)))
	put(t, s, "cart", milk)
	has(t, s, "cart", known(mark(1, 1, 1)))
}
