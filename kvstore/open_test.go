package kvstore_test

import (
	"maps"
	"math"
	"slices"
	"strconv"
	"testing"

	"trolley/api"
	"trolley/disk"
	"trolley/kvstore"
)

const maxStarts = 1<<20 - 1

func TestP9_1Starts(t *testing.T) {
	d := room(1 << 16)
	log := ""
	for n := 1; n <= 300; n++ {
		if s := open(t, d); s.Starts() != n || s.Bytes() != len(log)+len(framesOf(startsOf(n))) {
			t.Fatalf("the opening %d: %d, %d bytes", n, s.Starts(), s.Bytes())
		}
		log += framesOf(startsOf(n))
		now := look(d)
		if now.log() != log || now["log.1"].synced != len(log) {
			t.Fatalf("the opening %d leaves %v", n, now)
		}
	}
	ok(t, "Wipe", d.Wipe())
	if s := open(t, d); s.Starts() != 1 {
		t.Errorf("behind a wipe: %d", s.Starts())
	}
}

// The last record counts, be it the greatest or not.
func TestP9_1StartsOfALog(t *testing.T) {
	cases := []struct {
		starts []int
		want   int
	}{
		{nil, 1}, {[]int{0}, 1}, {[]int{1}, 2}, {[]int{7}, 8}, {[]int{1, 2, 3}, 4}, {[]int{9, 2}, 3}, {[]int{9, 0}, 1},
		{[]int{maxStarts, 5}, 6}, {[]int{math.MaxInt, 127}, 128},
		{[]int{maxStarts - 2}, maxStarts - 1}, {[]int{maxStarts - 1}, maxStarts},
		{[]int{maxStarts}, 0}, {[]int{maxStarts + 1}, 0}, {[]int{1 << 40}, 0}, {[]int{math.MaxInt}, 0}, {[]int{1, maxStarts}, 0},
	}
	for _, x := range cases {
		records := []string{cartOf("a", sample())}
		for _, n := range x.starts {
			records = append(records, startsOf(n), dropOf("b"))
		}
		d := logged(records...)
		was := look(d)
		s, e := kvstore.Open(d)
		if x.want == 0 {
			if s != nil || e != api.ErrFull || !maps.Equal(look(d), was) {
				t.Errorf("%v: %v, %v", x.starts, s, e)
			}
			continue
		}
		if e != api.OK || s.Starts() != x.want || look(d).log() != framesOf(append(records, startsOf(x.want))...) {
			t.Errorf("%v: %v, %v, want %d", x.starts, s.Starts(), e, x.want)
		}
	}
	d := logged(startsOf(maxStarts - 1))
	open(t, d)
	if s, e := kvstore.Open(d); s != nil || e != api.ErrFull {
		t.Errorf("once more than may be: %v, %v", s, e)
	}
}

func TestP9_1NoDisk(t *testing.T) {
	for name, d := range map[string]*disk.Disk{"nil": nil, "plain": {}} {
		if s, e := kvstore.Open(d); s != nil || e != api.ErrNil {
			t.Errorf("%s: %v, %v", name, s, e)
		}
	}
}

// The start's record needs room: without it there is no store, and nothing is written.
func TestP9_1NoRoom(t *testing.T) {
	need := len(framesOf(startsOf(1)))
	for n := range 2 * need {
		d := room(n)
		s, e := kvstore.Open(d)
		switch {
		case n >= need && (e != api.OK || s.Starts() != 1):
			t.Errorf("with room for %d: %v", n, e)
		case n < need && (s != nil || e != api.ErrFull || len(d.Files()) != 0):
			t.Errorf("with room for %d: %v, %v, %v", n, s, e, look(d))
		}
	}
	d := room(1 << 10)
	for i := range api.MaxFiles {
		d.Append("f"+strconv.Itoa(i), nil)
	}
	if s, e := kvstore.Open(d); s != nil || e != api.ErrFull {
		t.Errorf("with too many files: %v, %v", s, e)
	}
	torn := framesOf(startsOf(1), hintOf(hint(1, "a"))) + "x"
	d = room(len(torn) + 5)
	d.Append("log.1", []byte(torn))
	if s, e := kvstore.Open(d); s != nil || e != api.ErrFull {
		t.Errorf("without room to cut the log: %v, %v", s, e)
	}
	d = logged("\x00")
	d.Append("log.999999999", make([]byte, 1))
	if s, e := kvstore.Open(d); s != nil || e != api.ErrStore {
		t.Errorf("a wrong record: %v, %v", s, e)
	}
	d = room(api.MaxRoom)
	d.Append("log.999999999", []byte(framesOf(cartOf("a", fullest()))))
	if s, e := kvstore.Open(d); s != nil || e != api.ErrLog {
		t.Errorf("without a number for a segment: %v, %v", s, e)
	}
}

// rightRecords may be, alone and all together.
func rightRecords() []string {
	l := []string{
		startsOf(0), startsOf(1), startsOf(maxStarts - 1),
		cartOf("a", api.Cart{}), cartOf("a", sample()), cartOf(longestName(), fullest()), cartOf("b", known(mark(0, 1, 9))),
		dropOf("a"), dropOf("none"), hintOf(hint(0, "a")), hintOf(hint(7, longestName())), hintOf(hint(0, "a")),
		unhintOf(hint(0, "a")), unhintOf(hint(3, "none")),
	}
	for _, m := range rightMarks() {
		l = append(l, retireOf("retired", m), retireOf(longestName(), m))
	}
	for _, key := range rightNames() {
		l = append(l, cartOf(key, api.Cart{}), dropOf(key), hintOf(hint(1, key)), unhintOf(hint(1, key)), retireOf(key, mark(1, 1, 1)))
	}
	return l
}

// wrongRecords are none, each for a reason of its own.
func wrongRecords() []string {
	var l []string
	for _, r := range rightRecords() {
		for n := 1; n < min(len(r), 90); n++ {
			l = append(l, r[:n]) // none is a beginning of another one
		}
		l = append(l, r[:len(r)-1], r+"\x00", r+"a", r+r)
		for _, kind := range []string{"\x00", "\x07", "\x08", "\x7f", "\x80", "\xff"} {
			l = append(l, kind, kind+r[1:])
		}
	}
	for _, key := range wrongNames() {
		l = append(l, cartOf(key, sample()), dropOf(key), hintOf(hint(1, key)), unhintOf(hint(1, key)), retireOf(key, mark(1, 1, 1)))
	}
	for _, owner := range wrongOwners() {
		if owner > 0 {
			l = append(l, hintOf(hint(owner, "a")), unhintOf(hint(owner, "a")))
		}
	}
	for _, m := range wrongMarks() {
		if m.Node >= 0 && m.Life >= 0 && m.Count >= 0 {
			l = append(l, retireOf("a", m))
		}
	}
	for _, x := range wrongCarts() {
		l = append(l, cartOf("a", x.cart))
	}
	l = append(l,
		"\x01\x80\x00", "\x01\x81\x00", "\x01"+"\xff\xff\xff\xff\xff\xff\xff\xff\xff\x01", // numbers in other forms
		"\x03\x81\x00a", "\x04\x80\x00\x01a", "\x05\x80\x00\x01a", "\x06\x01a\x81\x00\x01\x01", "\x06\x01a\x01\x01\x81\x00",
		"\x02\x01a", "\x02\x01a\x00", "\x02\x01a\x00\x00", "\x02\x81\x00a"+codeOf(sample()),
		"\x04\x01a\x01", "\x06\x01\x01a\x01\x01", // things in another order
	)
	return slices.DeleteFunc(l, func(r string) bool { return len(r) > api.MaxFrame }) // what is longer stands in no log
}

func TestP9_1RecordsThatAreNone(t *testing.T) {
	good := cartOf("b", sample())
	for _, r := range wrongRecords() {
		for _, records := range [][]string{{r}, {good, r}, {r, good}, {startsOf(math.MaxInt), r}} {
			d := logged(records...)
			was := look(d)
			if s, e := kvstore.Open(d); s != nil || e != api.ErrStore {
				t.Fatalf("%.90q: %v, %v", records, s, e)
			}
			if !maps.Equal(look(d), was) {
				t.Fatalf("%.90q: the disk is another one", records)
			}
		}
	}
}

func TestP9_1RecordsThatMayBe(t *testing.T) {
	all := rightRecords()
	for _, r := range all {
		recovered(t, r)
		recovered(t, r, r)
	}
	s := recovered(t, all...)
	for _, key := range rightNames() {
		if marks := s.Retired(key); !slices.Contains(marks, mark(1, 1, 1)) {
			t.Errorf("%s: %v", key, marks)
		}
	}
}

// Records that refuse each other: a cart that can't be cleaned, or joined.
func TestP9_1RecordsThatDoNotFit(t *testing.T) {
	m := mark(0, 1, 3)
	tooMany := api.MaxItems/2 + 1
	for _, records := range [][]string{
		{retireOf("a", m), cartOf("a", known(mark(0, 1, 4)))},
		{retireOf("a", m), cartOf("a", beside(dot(0, 1, 5)))},
		{retireOf("a", m), cartOf("a", one("milk", mark(0, 1, 4), 1))},
		{retireOf("a", m), retireOf("a", mark(0, 1, 9)), cartOf("a", known(mark(0, 1, 4)))},
		{retireOf("a", m), cartOf("a", sample()), dropOf("a")},
		{cartOf("a", one("milk", m, 1)), cartOf("a", one("milk", m, 2))},
		{cartOf("a", one("milk", m, 1)), cartOf("a", one("bread", m, 1))},
		{cartOf("a", wide(0, tooMany)), cartOf("a", wide(1, tooMany))},
		{cartOf("a", lives(0, 1, api.MaxMarks)), cartOf("a", lives(0, 2, api.MaxMarks))},
	} {
		if s, e := kvstore.Open(logged(records...)); s != nil || e != api.ErrStore {
			t.Errorf("%.90q: %v, %v", records, s, e)
		}
		records[len(records)-1], records[1] = dropOf("a"), dropOf("a")
		recovered(t, records...)
	}
	s := recovered(t, retireOf("a", m), cartOf("a", known(m)), cartOf("b", known(mark(0, 1, 4))))
	has(t, s, "a", api.Cart{})
	has(t, s, "b", known(mark(0, 1, 4)))
}

func TestP9_1RecordsSayWhatThereIs(t *testing.T) {
	milk, bread := one("milk", mark(0, 1, 1), 2), one("bread", mark(1, 1, 1), 3)
	both := cart([]api.Mark{mark(0, 1, 1), mark(1, 1, 1)}, bread.Entries[0], milk.Entries[0])
	gone := known(mark(0, 1, 1), mark(2, 1, 1))
	cases := []struct {
		records []string
		want    func(s *kvstore.Store) bool
	}{
		{nil, func(s *kvstore.Store) bool { return tell(s) == "" }},
		{[]string{cartOf("a", milk)}, func(s *kvstore.Store) bool { return cartIs(s, "a", milk) && len(s.Keys()) == 1 }},
		{[]string{cartOf("a", milk), cartOf("a", milk)}, func(s *kvstore.Store) bool { return cartIs(s, "a", milk) }},
		{[]string{cartOf("a", milk), cartOf("a", bread)}, func(s *kvstore.Store) bool { return cartIs(s, "a", both) }},
		{[]string{cartOf("a", milk), cartOf("b", bread)}, func(s *kvstore.Store) bool { return cartIs(s, "a", milk) && cartIs(s, "b", bread) }},
		{[]string{cartOf("a", milk), cartOf("a", gone)}, func(s *kvstore.Store) bool { return cartIs(s, "a", gone) }},
		{[]string{cartOf("a", gone), cartOf("a", milk)}, func(s *kvstore.Store) bool { return cartIs(s, "a", gone) }},
		{[]string{cartOf("a", milk), dropOf("a"), cartOf("a", bread)}, func(s *kvstore.Store) bool { return cartIs(s, "a", bread) }},
		{[]string{dropOf("a"), cartOf("a", milk), dropOf("b")}, func(s *kvstore.Store) bool { return cartIs(s, "a", milk) }},
		{[]string{cartOf("a", milk), dropOf("a")}, func(s *kvstore.Store) bool { return tell(s) == "" }},
		{[]string{cartOf("a", api.Cart{})}, func(s *kvstore.Store) bool { return cartIs(s, "a", api.Cart{}) }},
		{[]string{hintOf(hint(2, "a")), hintOf(hint(1, "b")), hintOf(hint(2, "a"))}, hintsAre(hint(1, "b"), hint(2, "a"))},
		{[]string{hintOf(hint(2, "a")), unhintOf(hint(2, "b")), unhintOf(hint(1, "a"))}, hintsAre(hint(2, "a"))},
		{[]string{hintOf(hint(2, "a")), unhintOf(hint(2, "a"))}, hintsAre()},
		{[]string{unhintOf(hint(2, "a")), hintOf(hint(2, "a"))}, hintsAre(hint(2, "a"))},
		{[]string{hintOf(hint(2, "a")), dropOf("a")}, hintsAre(hint(2, "a"))},
		{[]string{retireOf("a", mark(0, 1, 5)), retireOf("a", mark(0, 1, 7)), retireOf("a", mark(0, 1, 3))}, marksAre("a", mark(0, 1, 5))},
		{[]string{retireOf("a", mark(2, 1, 5)), retireOf("a", mark(0, 9, 7)), retireOf("a", mark(0, 1, 3))}, marksAre("a", mark(0, 1, 3), mark(0, 9, 7), mark(2, 1, 5))},
		{[]string{retireOf("a", mark(0, 1, 5)), cartOf("a", milk), dropOf("a")}, marksAre("a", mark(0, 1, 5))},
		{[]string{retireOf("a", mark(0, 1, 5)), cartOf("a", both)}, func(s *kvstore.Store) bool { return cartIs(s, "a", bread) }},
		{[]string{cartOf("a", both), retireOf("a", mark(0, 1, 1))}, func(s *kvstore.Store) bool { return cartIs(s, "a", bread) }},
		{[]string{cartOf("a", milk), retireOf("a", mark(0, 1, 1))}, func(s *kvstore.Store) bool { return cartIs(s, "a", api.Cart{}) }},
		{[]string{cartOf("a", sample()), retireOf("a", mark(0, 1, 1))}, func(s *kvstore.Store) bool { return cartIs(s, "a", one("milk", mark(2, 5, 1), 3)) }},
		{[]string{cartOf("a", milk), retireOf("b", mark(0, 1, 1))}, func(s *kvstore.Store) bool { return cartIs(s, "a", milk) }},
		{[]string{retireOf("b", mark(0, 1, 1)), cartOf("a", milk)}, func(s *kvstore.Store) bool { return cartIs(s, "a", milk) }},
	}
	for _, x := range cases {
		if s := recovered(t, x.records...); !x.want(s) {
			t.Errorf("%q: %s", x.records, tell(s))
		}
		// What stands ahead of a frame without a payload does not count.
		if s := recovered(t, append([]string{"\x00", cartOf("a", sample()), hintOf(hint(0, "a")), ""}, x.records...)...); !x.want(s) {
			t.Errorf("behind a new beginning, %q: %s", x.records, tell(s))
		}
	}
}

func cartIs(s *kvstore.Store, key string, c api.Cart) bool {
	got, e := s.Get(key)
	return e == api.OK && same(got, c)
}

func hintsAre(l ...api.Hint) func(s *kvstore.Store) bool {
	return func(s *kvstore.Store) bool { return slices.Equal(s.Hints(), l) }
}

func marksAre(key string, l ...api.Mark) func(s *kvstore.Store) bool {
	return func(s *kvstore.Store) bool { return slices.Equal(s.Retired(key), l) }
}

// Hints that records say are kept, however many.
func TestP9_1MoreHintsThanMayBe(t *testing.T) {
	var records []string
	for i := range api.MaxHints + 1 {
		records = append(records, hintOf(hint(i%8, "k"+strconv.Itoa(i))))
	}
	s := recovered(t, records...)
	if n := len(s.Hints()); n != api.MaxHints+1 {
		t.Fatalf("%d hints", n)
	}
	want(t, "a new one", s.Hint(hint(0, "new")), api.ErrFull)
	want(t, "one that is kept", s.Hint(hint(1, "k1")), api.OK)
	ok(t, "Compact", s.Compact())
	if n := len(s.Hints()); n != api.MaxHints+1 {
		t.Errorf("behind Compact %d hints", n)
	}
	ok(t, "Unhint", s.Unhint(hint(1, "k1")))
	want(t, "a new one", s.Hint(hint(0, "new")), api.ErrFull)
	ok(t, "Unhint", s.Unhint(hint(2, "k2")))
	want(t, "a new one", s.Hint(hint(0, "new")), api.OK)
}

// A long log is opened in good time.
func TestP9_1ALongLog(t *testing.T) {
	var records []string
	for i := range 20000 {
		records = append(records, cartOf("k"+strconv.Itoa(i%50), one("milk", mark(i%8, 1+i%7, i+1), 1)), retireOf("r", mark(i%8, i+1, 1)))
	}
	s := recovered(t, records...)
	if len(s.Keys()) != 50 || len(s.Retired("r")) != 20000 {
		t.Errorf("%d keys, %d marks", len(s.Keys()), len(s.Retired("r")))
	}
	c, e := s.Put("r", known(mark(0, 1, 1), mark(1, 3, 1)))
	ok(t, "Put", e)
	is(t, "a cart whose actors are some of many", c, known(mark(1, 3, 1)))
}
