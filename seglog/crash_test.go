package seglog_test

import (
	"slices"
	"strconv"
	"strings"
	"testing"

	"trolley/api"
	"trolley/disk"
	"trolley/seglog"
)

// history is a log that is written, and a copy of its disk crashes ahead of each call by which the disk is changed, in many ways.
type history struct {
	t       *testing.T
	g       *dice
	d       *disk.Disk
	l       *seglog.Log
	all     []string // the records
	kept    int      // how many of them must stay
	rec     string   // the record that is being appended
	recs    []string // the records that take the place of all, while they do
	instead bool
	crashes int
	torn    int
}

func begin(t *testing.T, seed uint64, room int) *history {
	d, e := disk.New(room)
	ok(t, "New", e)
	h := &history{t: t, g: &dice{x: seed}, d: d}
	h.l = seglog.On(watched{d, h.ahead})
	return h
}

// ahead tells what a call does to the records, when the crashes ahead of it are over.
func (h *history) ahead(call string) api.Errno {
	h.crash(call)
	what, name, _ := strings.Cut(call, " ")
	switch {
	case name == "log.new" || what == "rename" || what == "remove":
	case what == "append":
		h.all = append(h.all, h.rec)
	case what == "sync":
		h.kept = len(h.all)
	}
	return api.OK
}

func (h *history) append(rec string) {
	h.rec = rec
	ok(h.t, "Append", h.l.Append([]byte(rec)))
	h.crash("behind an append")
}

func (h *history) sync() {
	ok(h.t, "Sync", h.l.Sync())
	h.kept = len(h.all)
	h.crash("behind a sync")
}

func (h *history) replace(recs ...string) api.Errno {
	h.recs, h.instead = recs, true
	e := h.l.Replace(bytesOf(recs))
	h.instead = false
	if e == api.OK {
		h.all, h.kept = slices.Clone(recs), len(recs)
	}
	h.crash("behind a replace")
	return e
}

// may tells whether a crash may leave these records.
func (h *history) may(records []string) bool {
	if h.instead && slices.Equal(records, h.recs) {
		return true
	}
	return h.kept <= len(records) && len(records) <= len(h.all) && slices.Equal(records, h.all[:len(records)])
}

func (h *history) crash(when string) {
	h.t.Helper()
	for tears := range crashes(h.g, h.d) {
		d := h.d.Copy()
		ok(h.t, "Crash", d.Crash(tears))
		whole := look(d)
		l, records := open(h.t, d)
		if !h.may(records) {
			h.t.Fatalf("%s, torn by %v: %q of %q, of which %d stay, or %q", when, tears, short(records), short(h.all), h.kept, short(h.recs))
		}
		h.crashes++
		if last := len(l.Segments()); last > 0 && whole[seglog.Name(l.Segments()[last-1])] != look(d)[seglog.Name(l.Segments()[last-1])] {
			h.torn++
		}
		if l.Append([]byte("more")) == api.OK {
			holds(h.t, d, append(records, "more")...)
		}
	}
}

// crashes yields tears without junk: each one of a short file's, of a long one's some.
func crashes(g *dice, d *disk.Disk) func(yield func([]api.Tear) bool) {
	return func(yield func([]api.Tear) bool) {
		loose := map[string]int{}
		most := 0
		for name, f := range look(d) {
			loose[name] = len(f.bytes) - f.synced
			most = max(most, loose[name])
		}
		for i := range min(most, 24) + 1 {
			var tears []api.Tear
			for _, name := range d.Files() {
				n := loose[name]
				keep := min(i, n)
				switch {
				case i == 24 || n < 24 && i > n:
					keep = n
				case n >= 24 && i > 2:
					keep = g.below(n + 1)
				}
				tears = append(tears, api.Tear{Name: name, Keep: keep})
			}
			if !yield(tears) {
				return
			}
		}
	}
}

// records are thrown ones, of which a few fill a segment.
func (g *dice) record() string {
	if g.below(3) == 0 {
		return long(strconv.Itoa(g.below(1000)), 700+g.below(2500))
	}
	return g.word()
}

func (g *dice) recordsOf(most int) []string {
	var l []string
	for range g.below(most + 1) {
		l = append(l, g.record())
	}
	return l
}

func TestP7_7Recovered(t *testing.T) {
	all, torn, segments := 0, 0, 0
	for seed := range uint64(12) {
		h := begin(t, seed, 1<<16)
		for range 30 {
			if h.g.below(4) == 0 {
				h.sync()
			} else {
				h.append(h.g.record())
			}
		}
		all, torn, segments = all+h.crashes, torn+h.torn, segments+len(h.l.Segments())
	}
	if all < 3000 || torn < 1000 || segments < 30 {
		t.Errorf("%d crashes, %d tore a segment, of %d", all, torn, segments)
	}
}

func TestP7_9ReplacedOrNot(t *testing.T) {
	torn, replaced, full := 0, 0, 0
	for seed := range uint64(20) {
		h := begin(t, 900+seed, 1<<16)
		for range 15 {
			switch h.g.below(8) {
			case 0:
				h.sync()
			case 1:
				ok(t, "Replace", h.replace(h.g.recordsOf(6)...))
				replaced++
			case 2:
				want(t, "Replace without room", h.replace("a", long("b", api.MaxFrame), "c"), api.ErrFull)
				full++
			default:
				h.append(h.g.record())
			}
		}
		torn += h.torn
	}
	if torn < 500 || replaced < 20 || full < 20 {
		t.Errorf("%d tore a segment, %d Replaces were OK, %d were not", torn, replaced, full)
	}
}

// Many old segments, the last of them not synced: whichever of them are gone, what was there or what comes is whole.
func TestP7_9ManySegments(t *testing.T) {
	h := begin(t, 99, 1<<18)
	for n := range 4 {
		h.append(fill(strconv.Itoa(n), api.Segment))
	}
	for n := range 6 {
		h.append(long(strconv.Itoa(n), 30+n))
	}
	if n := len(h.l.Segments()); n != 5 {
		t.Fatalf("%d segments", n)
	}
	ok(t, "Replace", h.replace("a", long("b", 5000), "c"))
	if h.torn == 0 {
		t.Error("no crash tore a segment")
	}
	h.append("d")
	ok(t, "Replace", h.replace())
	holds(t, h.d)
}

// A crash within Open leaves what a later Open finds.
func TestP7_7CrashesWithinOpen(t *testing.T) {
	cut := 0
	for seed := range uint64(100) {
		h := begin(t, 7000+seed, 1<<16)
		h.l = seglog.On(h.d)
		n := 1 + h.g.below(8)
		for i := range n {
			h.rec = h.g.record()
			ok(t, "Append", h.l.Append([]byte(h.rec)))
			h.all = append(h.all, h.rec)
			if h.g.below(3) == 0 && i < n-1 {
				ok(t, "Sync", h.l.Sync())
			}
		}
		size, stay, _ := h.d.Size(seglog.Name(len(h.l.Segments())))
		ok(t, "Crash", h.d.Crash([]api.Tear{{Name: seglog.Name(len(h.l.Segments())), Keep: h.g.below(size - stay + 1)}}))
		_, h.all = open(t, h.d.Copy())
		h.kept = len(h.all)
		calls := 0
		records, e := seglog.Recover(watched{h.d, func(call string) api.Errno {
			calls++
			h.crash(call)
			if strings.HasPrefix(call, "rename") {
				cut++
			}
			return api.OK
		}})
		ok(t, "Open", e)
		if !slices.Equal(texts(records), h.all) || calls < 1 {
			t.Fatalf("%q, want %q", short(texts(records)), short(h.all))
		}
		h.crash("behind Open")
	}
	if cut < 20 {
		t.Errorf("only %d logs were cut", cut)
	}
}
