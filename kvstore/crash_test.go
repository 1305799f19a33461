package kvstore_test

import (
	"maps"
	"slices"
	"strings"
	"testing"

	"trolley/api"
	"trolley/disk"
	"trolley/kvstore"
	"trolley/seglog"
)

// history is a store that is worked on. What each call does to the disk is done once more on a copy, step by step, and ahead of each step that copy crashes in many ways.
type history struct {
	t       *testing.T
	g       *dice
	d       *disk.Disk
	s       *kvstore.Store
	pool    []api.Cart
	starts  int      // of the last store that was opened
	told    []string // what the stores told at first, and behind each record
	kept    int      // what is told from here on may be what a crash leaves
	crashes int
	lost    int // of them, those that lost something
	between int // and the steps that were not their call's first
}

// step is a call of the disk, and what it does to what may be lost.
type step struct {
	do   func(d *disk.Disk) api.Errno
	then func(h *history)
}

func nothingMore(*history) {}

// allStays is what a sync of the last segment does: the ones ahead of it are synced.
func allStays(h *history) { h.kept = len(h.told) - 1 }

func syncOf(name string, then func(h *history)) step {
	return step{func(d *disk.Disk) api.Errno { return d.Sync(name) }, then}
}

func appendOf(name, text string, then func(h *history)) step {
	return step{func(d *disk.Disk) api.Errno { return d.Append(name, []byte(text)) }, then}
}

func renameOf(from, to string, then func(h *history)) step {
	return step{func(d *disk.Disk) api.Errno { return d.Rename(from, to) }, then}
}

func removeOf(name string) step {
	return step{func(d *disk.Disk) api.Errno { return d.Remove(name) }, nothingMore}
}

func (m image) last() string {
	l := append([]string{""}, m.segments()...)
	return l[len(l)-1]
}

// recordSteps are those of the record by which a log became another one, if one was written; behind it the store tells this.
func recordSteps(was, now image, told string) []step {
	if maps.Equal(was, now) {
		return nil
	}
	var l []step
	name := now.last()
	if was.last() != "" && was.last() != name {
		l = append(l, syncOf(was.last(), allStays))
	}
	text := strings.TrimPrefix(now[name].bytes, was[name].bytes)
	return append(l, appendOf(name, text, func(h *history) { h.told = append(h.told, told) }))
}

// compactSteps end with a log that has nothing to lose.
func compactSteps(was, now image) []step {
	name := now.last()
	l := []step{
		appendOf("log.new", now[name].bytes, nothingMore),
		syncOf("log.new", nothingMore),
		syncOf(was.last(), allStays),
		renameOf("log.new", name, nothingMore),
	}
	for _, old := range was.segments() {
		l = append(l, removeOf(old))
	}
	return l
}

// openSteps cut a torn segment, the last one, and write the start's record.
func openSteps(was, recovered, now image, told string) []step {
	var l []step
	for name, f := range was {
		if whole, there := recovered[name]; there && whole.bytes != f.bytes {
			l = append(l, appendOf("log.new", whole.bytes, nothingMore), syncOf("log.new", nothingMore), renameOf("log.new", name, nothingMore))
		} else if !there {
			l = append(l, removeOf(name))
		}
	}
	l = append(l, recordSteps(recovered, now, told)...)
	return append(l, syncOf(now.last(), allStays))
}

// play goes through steps on a disk as it was, which must come to what it is now.
func (h *history) play(d *disk.Disk, steps []step) {
	h.t.Helper()
	for i, s := range steps {
		if i > 0 {
			h.between++
		}
		h.crash(d)
		ok(h.t, "a step", s.do(d))
		s.then(h)
	}
	h.crash(d)
	if was := look(d); !maps.Equal(was, look(h.d)) {
		h.t.Fatalf("%d steps come to %v, and not to %v", len(steps), was, look(h.d))
	}
}

// crash tells what a disk may hold behind a crash, whatever is torn.
func (h *history) crash(d *disk.Disk) {
	h.t.Helper()
	for i := range 8 {
		c := d.Copy()
		ok(h.t, "Crash", c.Crash(h.tears(d, i)))
		s := open(h.t, c)
		now := tell(s)
		if !slices.Contains(h.told[h.kept:], now) {
			h.t.Fatalf("a crash leaves %s, and not one of %q", now, h.told[h.kept:])
		}
		if s.Starts() <= h.starts {
			h.t.Fatalf("behind a crash the start %d, behind the start %d", s.Starts(), h.starts)
		}
		h.crashes++
		if now != h.told[len(h.told)-1] {
			h.lost++
		}
	}
}

// tears keep nothing, or all, or some of what is not synced.
func (h *history) tears(d *disk.Disk, way int) []api.Tear {
	var l []api.Tear
	for name, f := range look(d) {
		loose := len(f.bytes) - f.synced
		keep := h.g.below(loose + 1)
		switch way {
		case 0:
			keep = 0
		case 1:
			keep = loose
		}
		l = append(l, api.Tear{Name: name, Keep: keep})
	}
	return l
}

// next is a call of any kind, but that the store is opened.
func (h *history) next() {
	h.t.Helper()
	ahead := h.d.Copy()
	was := look(ahead)
	switch h.g.below(12) {
	case 0:
		ok(h.t, "Sync", h.s.Sync())
		h.play(ahead, []step{syncOf(was.last(), allStays)})
	case 1:
		ok(h.t, "Compact", h.s.Compact())
		h.play(ahead, compactSteps(was, look(h.d)))
	default:
		h.write()
		h.play(ahead, recordSteps(was, look(h.d), tell(h.s)))
	}
}

// write is a call that writes a record, or has an error and writes none.
func (h *history) write() {
	key := keys()[h.g.below(len(keys()))]
	switch h.g.below(8) {
	case 0:
		h.s.Drop(key)
	case 1:
		h.s.Hint(hint(h.g.below(8), key))
	case 2:
		h.s.Unhint(hint(h.g.below(8), key))
	case 3:
		h.s.Retire(key, mark(h.g.below(3), 1+h.g.below(2), 1+h.g.below(9)))
	case 4:
		h.s.Put(key+".wide", wide(h.g.below(8), api.MaxItems))
	default:
		h.s.Put(key, h.pool[h.g.below(len(h.pool))])
	}
}

// open opens the store behind a crash.
func (h *history) open() {
	h.t.Helper()
	ok(h.t, "Crash", h.d.Crash(h.tears(h.d, h.g.below(8))))
	ahead, mended := h.d.Copy(), h.d.Copy()
	_, _, e := seglog.Open(mended)
	ok(h.t, "Open of the log", e)
	s := open(h.t, h.d)
	told := tell(s)
	if !slices.Contains(h.told[h.kept:], told) || s.Starts() <= h.starts {
		h.t.Fatalf("behind a crash %s, and not one of %q; the start %d", told, h.told[h.kept:], s.Starts())
	}
	h.told, h.kept = []string{told}, 0
	h.play(ahead, openSteps(look(ahead), look(mended), look(h.d), told))
	h.s, h.starts = s, s.Starts()
}

func TestP9_5Recovered(t *testing.T) {
	sum := history{}
	for seed := range uint64(10) {
		h := history{t: t, g: &dice{x: 950 + seed}, d: room(api.MaxRoom), told: []string{""}}
		h.pool = h.g.carts(t, 30)
		for range 6 {
			h.open()
			for range 20 {
				h.next()
			}
		}
		sum.crashes, sum.lost, sum.between, sum.starts = sum.crashes+h.crashes, sum.lost+h.lost, sum.between+h.between, sum.starts+h.starts
	}
	if sum.crashes < 15000 || sum.lost < 3000 || sum.between < 300 || sum.starts != 10*6 {
		t.Errorf("%d crashes, %d lost something, %d steps within a call, %d starts", sum.crashes, sum.lost, sum.between, sum.starts)
	}
}

// Records that were written, but not synced, are lost one behind another.
func TestP9_5APrefix(t *testing.T) {
	s, d := empty(t)
	var told []string
	var ends []int
	log := func() int { return len(look(d).log()) }
	began := log()
	for _, call := range []func(){
		func() {},
		func() { put(t, s, "a", one("milk", mark(0, 1, 1), 1)) },
		func() { ok(t, "Hint", s.Hint(hint(1, "a"))) },
		func() { ok(t, "Drop", s.Drop("a")) },
		func() { ok(t, "Retire", s.Retire("a", mark(0, 1, 1))) },
		func() { put(t, s, "a", one("milk", mark(0, 1, 1), 1)) },
		func() { ok(t, "Unhint", s.Unhint(hint(1, "a"))) },
	} {
		call()
		told, ends = append(told, tell(s)), append(ends, log())
	}
	for keep := range log() - began + 1 {
		c := d.Copy()
		ok(t, "Crash", c.Crash([]api.Tear{{Name: "log.1", Keep: keep}}))
		whole := 0
		for whole < len(ends)-1 && ends[whole+1] <= began+keep {
			whole++
		}
		if now := tell(open(t, c)); now != told[whole] {
			t.Errorf("with %d bytes: %s, want %s", keep, now, told[whole])
		}
	}
}

// Of one disk's history each store has a greater start than those ahead of it, however often the disk crashes, and wherever Open does.
func TestP9_9Opened(t *testing.T) {
	g := &dice{x: 99}
	d := room(1 << 16)
	last := 0
	for n := range 400 {
		if g.below(3) > 0 {
			ok(t, "Crash", d.Crash(nil))
		}
		s := open(t, d)
		if s.Starts() != last+1 {
			t.Fatalf("the opening %d: %d, behind %d", n, s.Starts(), last)
		}
		last = s.Starts()
		for range g.below(4) {
			s.Put("k", known(mark(0, 1, 1+n)))
		}
		if g.below(5) == 0 {
			ok(t, "Compact", s.Compact())
		}
	}
	other := room(1 << 16)
	if s := open(t, other); s.Starts() != 1 {
		t.Errorf("another disk: %d", s.Starts())
	}
	ok(t, "Wipe", d.Wipe())
	if s := open(t, d); s.Starts() != 1 {
		t.Errorf("behind a wipe: %d", s.Starts())
	}
}
