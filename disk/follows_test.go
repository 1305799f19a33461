package disk_test

import (
	"bytes"
	"slices"
	"strings"
	"testing"

	"trolley/api"
	"trolley/disk"
)

// dice are numbers that look thrown, the same ones each time.
type dice struct{ x uint64 }

func (g *dice) below(n int) int {
	g.x = g.x*6364136223846793005 + 1442695040888963407
	return int(g.x >> 33 % uint64(n))
}

func (g *dice) bytes(most int) []byte {
	b := make([]byte, g.below(most+1))
	for i := range b {
		b[i] = byte('a' + g.below(26))
	}
	return b
}

func (g *dice) name() string { return string(rune('p' + g.below(5))) }

func (g *dice) tears(d *disk.Disk) []api.Tear {
	var tears []api.Tear
	for range g.below(4) {
		tears = append(tears, api.Tear{Name: g.name(), Keep: g.below(6) - 1, Junk: g.bytes(2)})
	}
	return tears
}

// kinds of a thrown call.
const (
	appends = iota
	syncs
	renames
	removes
	crashes
	wipes
	kinds
)

// call is a thrown call: what it does, and what it names.
type call struct {
	kind     int
	name, to string
	bytes    []byte
	tears    []api.Tear
}

func (g *dice) call(d *disk.Disk) call {
	kind := min(g.below(60)/10, crashes)
	if kind == crashes && g.below(8) == 0 {
		kind = wipes
	}
	if kind > syncs && g.below(2) == 0 {
		kind = appends
	}
	return call{kind, g.name(), g.name(), g.bytes(6), g.tears(d)}
}

func (c call) on(d *disk.Disk) api.Errno {
	switch c.kind {
	case appends:
		return d.Append(c.name, c.bytes)
	case syncs:
		return d.Sync(c.name)
	case renames:
		return d.Rename(c.name, c.to)
	case removes:
		return d.Remove(c.name)
	case crashes:
		return d.Crash(c.tears)
	}
	return d.Wipe()
}

// named tells whether a call may change a file.
func (c call) named(name string) bool {
	switch c.kind {
	case renames:
		return name == c.name || name == c.to
	case crashes, wipes:
		return true
	}
	return name == c.name
}

// thrown runs many calls on a disk, and shows each with the disk ahead of it and behind it.
func thrown(t *testing.T, show func(c call, e api.Errno, was, now image)) {
	t.Helper()
	g := &dice{x: 7}
	done := [kinds]int{}
	for range 60 {
		d, _ := disk.New(40 + g.below(40))
		for range 100 {
			c := g.call(d)
			was := look(d)
			e := c.on(d)
			show(c, e, was, look(d))
			if e == api.OK {
				done[c.kind]++
			}
		}
	}
	for kind, n := range done {
		if n < 20 {
			t.Errorf("of kind %d only %d calls were OK", kind, n)
		}
	}
}

func TestAnErrorChangesNothing(t *testing.T) {
	thrown(t, func(c call, e api.Errno, was, now image) {
		if e != api.OK && !now.is(was) {
			t.Fatalf("%v: %v, and %v is %v", c, e, was, now)
		}
	})
}

func TestP2_7WhatIsSyncedStays(t *testing.T) {
	thrown(t, func(c call, e api.Errno, was, now image) {
		if c.kind == renames || c.kind == removes || c.kind == wipes {
			return
		}
		for _, f := range was.files {
			g := now.file(f.name)
			if g.synced < f.synced || !strings.HasPrefix(g.bytes, f.bytes[:f.synced]) {
				t.Fatalf("%v: %v is %v", c, f, g)
			}
		}
	})
}

func TestP2_8ACrashLeavesABeginning(t *testing.T) {
	g := &dice{x: 8}
	for range 500 {
		d, _ := disk.New(60)
		for range 20 {
			g.call(d).on(d)
		}
		var tears []api.Tear
		was := look(d)
		for _, f := range was.files {
			if g.below(3) > 0 {
				tears = append(tears, api.Tear{Name: f.name, Keep: g.below(len(f.bytes) - f.synced + 1)})
			}
		}
		ok(t, "Crash", d.Crash(tears))
		now := look(d)
		if len(now.files) != len(was.files) {
			t.Fatalf("%v is %v", was, now)
		}
		for _, f := range was.files {
			n := f.synced
			for _, tear := range tears {
				if tear.Name == f.name {
					n += tear.Keep
				}
			}
			if g := now.file(f.name); g != (seen{f.name, f.bytes[:n], n}) {
				t.Fatalf("%v, torn by %v: %v", f, tears, g)
			}
		}
	}
}

func TestP2_9NothingLeftToLose(t *testing.T) {
	g := &dice{x: 9}
	crashed := 0
	for range 500 {
		d, _ := disk.New(60)
		for range 20 {
			g.call(d).on(d)
		}
		if d.Crash(g.tears(d)) == api.OK {
			crashed++
		} else {
			ok(t, "Crash", d.Crash(nil))
		}
		was := look(d)
		ok(t, "Crash", d.Crash(nil))
		if now := look(d); !now.is(was) {
			t.Fatalf("%v is %v", was, now)
		}
	}
	if crashed < 50 {
		t.Errorf("only %d crashes with tears", crashed)
	}
}

func TestP2_10Apart(t *testing.T) {
	other := sample(t)
	whole := look(other)
	thrown(t, func(c call, e api.Errno, was, now image) {
		for _, name := range []string{"p", "q", "r", "s", "t"} {
			if !c.named(name) && now.file(name) != was.file(name) {
				t.Fatalf("%v changes %s", c, name)
			}
		}
	})
	if !look(other).is(whole) {
		t.Error("another disk is changed")
	}
}

func TestP2_10TwoDisks(t *testing.T) {
	g := &dice{x: 10}
	a, _ := disk.New(60)
	for range 2000 {
		b := a.Copy()
		was := look(a)
		g.call(b).on(b)
		if !look(a).is(was) {
			t.Fatal("a copy's call changes the disk")
		}
		was = look(b)
		g.call(a).on(a)
		if !look(b).is(was) {
			t.Fatal("a disk's call changes the copy")
		}
	}
}

func TestP2_11PieceByPiece(t *testing.T) {
	g := &dice{x: 11}
	both := 0
	for range 2000 {
		a, _ := disk.New(20)
		a.Append("p", g.bytes(6))
		if g.below(2) == 0 {
			a.Sync("p")
		}
		b := a.Copy()
		x, y, name := g.bytes(8), g.bytes(8), g.name()
		if a.Append(name, x) != api.OK || a.Append(name, y) != api.OK {
			continue
		}
		both++
		ok(t, "Append of both", b.Append(name, slices.Concat(x, y)))
		if !look(a).is(look(b)) {
			t.Fatalf("%v and %v", look(a), look(b))
		}
	}
	if both < 500 {
		t.Errorf("only %d pairs", both)
	}
}

func TestExampleOfTheDocument(t *testing.T) {
	d, _ := disk.New(100)
	d.Append("a", []byte{1, 2})
	d.Sync("a")
	d.Append("a", []byte{3, 4, 5})
	torn, short := d.Copy(), d.Copy()
	ok(t, "Crash", torn.Crash([]api.Tear{{Name: "a", Keep: 1, Junk: []byte{9}}}))
	ok(t, "Crash", short.Crash(nil))
	b, _ := torn.Read("a")
	c, _ := short.Read("a")
	_, synced, _ := torn.Size("a")
	if !bytes.Equal(b, []byte{1, 2, 3, 9}) || synced != 4 || !bytes.Equal(c, []byte{1, 2}) {
		t.Errorf("%v, %d, %v", b, synced, c)
	}
}
