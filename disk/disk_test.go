package disk_test

import (
	"bytes"
	"math"
	"slices"
	"strconv"
	"strings"
	"testing"

	"trolley/api"
	"trolley/disk"
)

// image is all that can be told of a disk.
type image struct {
	room, used int
	files      []seen
}

type seen struct {
	name   string
	bytes  string
	synced int
}

func look(d *disk.Disk) image {
	m := image{room: d.Room(), used: d.Used()}
	for _, name := range d.Files() {
		b, _ := d.Read(name)
		_, synced, _ := d.Size(name)
		m.files = append(m.files, seen{name, string(b), synced})
	}
	return m
}

func (m image) is(o image) bool {
	return m.room == o.room && m.used == o.used && slices.Equal(m.files, o.files)
}

// file is what can be told of one file; its synced is -1, if there is none.
func (m image) file(name string) seen {
	for _, f := range m.files {
		if f.name == name {
			return f
		}
	}
	return seen{name, "", -1}
}

func ok(t *testing.T, what string, e api.Errno) {
	t.Helper()
	if e != api.OK {
		t.Fatalf("%s: %v", what, e)
	}
}

// has tells what a disk's files are to be: name, bytes, how many are synced.
func has(t *testing.T, d *disk.Disk, files ...seen) {
	t.Helper()
	used := 0
	for _, f := range files {
		used += len(f.bytes)
	}
	want := image{d.Room(), used, files}
	if got := look(d); !got.is(want) {
		t.Fatalf("the disk is %v, want %v", got, want)
	}
	for _, f := range files {
		if n, synced, e := d.Size(f.name); n != len(f.bytes) || synced != f.synced || e != api.OK {
			t.Fatalf("the size of %s: %d, %d, %v", f.name, n, synced, e)
		}
	}
}

// fails runs a call that is to answer an error, and to change nothing.
func fails(t *testing.T, d *disk.Disk, what string, want api.Errno, call func() api.Errno) {
	t.Helper()
	was := look(d)
	if e := call(); e != want {
		t.Errorf("%s: %v, want %v", what, e, want)
	}
	if now := look(d); !now.is(was) {
		t.Errorf("%s: the disk was %v and is %v", what, was, now)
	}
}

// sample has a file with synced bytes and others, one with none, and a synced one.
func sample(t *testing.T) *disk.Disk {
	d, e := disk.New(100)
	ok(t, "New", e)
	ok(t, "Append", d.Append("a", []byte("12")))
	ok(t, "Sync", d.Sync("a"))
	ok(t, "Append", d.Append("a", []byte("345")))
	ok(t, "Append", d.Append("b", []byte("xy")))
	ok(t, "Append", d.Append("c", []byte("z")))
	ok(t, "Sync", d.Sync("c"))
	return d
}

func wrongNames() []string {
	names := []string{"", strings.Repeat("n", 33), strings.Repeat("n", 1<<16), "x y", "a/b", "é", "\x80", "a\x00", " ", "a\n"}
	for _, c := range "/:@[^`{,+" {
		names = append(names, string(c))
	}
	return names
}

func rightNames() []string {
	names := []string{strings.Repeat("n", 32), "a", ".", "..", "-", "_", "log.new", "A-Z_0.9"}
	for _, c := range "azAZ09" {
		names = append(names, string(c)+string(c))
	}
	return names
}

func TestP2_1New(t *testing.T) {
	for _, room := range []int{0, 1, 3, 4096, api.MaxRoom - 1, api.MaxRoom} {
		d, e := disk.New(room)
		if e != api.OK || d == nil || d.Room() != room || d.Used() != 0 || len(d.Files()) != 0 {
			t.Errorf("New(%d): %v", room, e)
		}
	}
	for _, room := range []int{-1, math.MinInt, api.MaxRoom + 1, math.MaxInt} {
		if d, e := disk.New(room); e != api.ErrArg || d != nil {
			t.Errorf("New(%d): %v, %v", room, d, e)
		}
	}
}

func TestP2_1UsedAndFiles(t *testing.T) {
	d, _ := disk.New(50)
	names := []string{"b", "a", "_", "A", "-", "aa", "Z", "z", "9", ".", "a.", "a-"}
	for i, name := range names {
		ok(t, "Append", d.Append(name, make([]byte, i%4)))
	}
	rising := []string{"-", ".", "9", "A", "Z", "_", "a", "a-", "a.", "aa", "b", "z"}
	if got := d.Files(); !slices.Equal(got, rising) {
		t.Errorf("Files() = %q", got)
	}
	if d.Used() != 18 || d.Room() != 50 {
		t.Errorf("Used() = %d, Room() = %d", d.Used(), d.Room())
	}
	got := d.Files()
	got[0] = "other"
	if !slices.Equal(d.Files(), rising) {
		t.Error("Files answers the disk's own list")
	}
}

func TestP2_2Append(t *testing.T) {
	d, _ := disk.New(10)
	ok(t, "Append", d.Append("a", []byte("12")))
	has(t, d, seen{"a", "12", 0})
	ok(t, "Append", d.Append("b", nil))
	ok(t, "Append", d.Append("c", []byte{}))
	ok(t, "Append", d.Append("a", []byte("3")))
	ok(t, "Append", d.Append("a", nil))
	ok(t, "Append", d.Append("b", []byte("x")))
	has(t, d, seen{"a", "123", 0}, seen{"b", "x", 0}, seen{"c", "", 0})
}

func TestP2_2AppendBeyondTheRoom(t *testing.T) {
	d, _ := disk.New(5)
	fails(t, d, "six bytes", api.ErrFull, func() api.Errno { return d.Append("a", make([]byte, 6)) })
	ok(t, "three bytes", d.Append("a", []byte("123")))
	fails(t, d, "three more", api.ErrFull, func() api.Errno { return d.Append("a", []byte("456")) })
	fails(t, d, "three of another file", api.ErrFull, func() api.Errno { return d.Append("b", []byte("456")) })
	ok(t, "just enough room", d.Append("b", []byte("45")))
	fails(t, d, "a byte", api.ErrFull, func() api.Errno { return d.Append("a", []byte("6")) })
	fails(t, d, "a byte of a new file", api.ErrFull, func() api.Errno { return d.Append("c", []byte("6")) })
	ok(t, "no byte", d.Append("a", nil))
	ok(t, "no byte of a new file", d.Append("c", nil))
	has(t, d, seen{"a", "123", 0}, seen{"b", "45", 0}, seen{"c", "", 0})
	ok(t, "Remove", d.Remove("b"))
	ok(t, "in the room that was let go", d.Append("c", []byte("45")))

	none, _ := disk.New(0)
	fails(t, none, "a byte without room", api.ErrFull, func() api.Errno { return none.Append("a", []byte{1}) })
	ok(t, "no byte without room", none.Append("a", nil))
}

func TestP2_2MaxRoom(t *testing.T) {
	d, _ := disk.New(api.MaxRoom)
	fails(t, d, "a byte too many", api.ErrFull, func() api.Errno { return d.Append("a", make([]byte, api.MaxRoom+1)) })
	ok(t, "all at once", d.Append("a", make([]byte, api.MaxRoom)))
	if d.Used() != api.MaxRoom || d.Append("a", []byte{1}) != api.ErrFull {
		t.Error("the fullest disk")
	}
}

func TestP2_2MaxFiles(t *testing.T) {
	d, _ := disk.New(1000)
	for i := range api.MaxFiles {
		ok(t, "Append", d.Append("f"+strconv.Itoa(i), nil))
	}
	fails(t, d, "one more file", api.ErrFull, func() api.Errno { return d.Append("g", nil) })
	ok(t, "a file that is there", d.Append("f7", []byte("1")))
	ok(t, "Rename", d.Rename("f8", "g"))
	fails(t, d, "the old name", api.ErrFull, func() api.Errno { return d.Append("f8", nil) })
	ok(t, "Remove", d.Remove("f9"))
	ok(t, "in the place of one that is gone", d.Append("f8", nil))
	if n := len(d.Files()); n != api.MaxFiles {
		t.Errorf("%d files", n)
	}
}

func TestP2_2SyncReadSize(t *testing.T) {
	d := sample(t)
	has(t, d, seen{"a", "12345", 2}, seen{"b", "xy", 0}, seen{"c", "z", 1})
	ok(t, "Sync", d.Sync("a"))
	has(t, d, seen{"a", "12345", 5}, seen{"b", "xy", 0}, seen{"c", "z", 1})
	ok(t, "Sync", d.Sync("a"))
	ok(t, "Append", d.Append("a", nil))
	has(t, d, seen{"a", "12345", 5}, seen{"b", "xy", 0}, seen{"c", "z", 1})
	d.Append("d", nil)
	ok(t, "Sync of an empty file", d.Sync("d"))
	if b, e := d.Read("d"); len(b) != 0 || e != api.OK {
		t.Errorf("Read of an empty file: %x, %v", b, e)
	}
}

func TestP2_2Memory(t *testing.T) {
	d, _ := disk.New(100)
	b := append(make([]byte, 0, 16), "123"...)
	ok(t, "Append", d.Append("a", b))
	copy(b, "999")
	ok(t, "Append", d.Append("a", []byte("45")))
	if !bytes.Equal(b[:cap(b)], append([]byte("999"), make([]byte, 13)...)) {
		t.Error("Append wrote into what was handed in")
	}
	has(t, d, seen{"a", "12345", 0})
	got, _ := d.Read("a")
	got = got[:cap(got)]
	for i := range got {
		got[i] = 'w'
	}
	ok(t, "Append", d.Append("a", []byte("6")))
	has(t, d, seen{"a", "123456", 0})
	if bytes.IndexByte(got, '6') >= 0 {
		t.Error("what was read shares the disk's memory")
	}
}

func TestP2_3Rename(t *testing.T) {
	d := sample(t)
	ok(t, "to a new name", d.Rename("a", "d"))
	has(t, d, seen{"b", "xy", 0}, seen{"c", "z", 1}, seen{"d", "12345", 2})
	ok(t, "to a name that is there", d.Rename("d", "c"))
	has(t, d, seen{"b", "xy", 0}, seen{"c", "12345", 2})
	ok(t, "to the same name", d.Rename("c", "c"))
	has(t, d, seen{"b", "xy", 0}, seen{"c", "12345", 2})
	ok(t, "Append", d.Append("a", []byte("new")))
	has(t, d, seen{"a", "new", 0}, seen{"b", "xy", 0}, seen{"c", "12345", 2})
	ok(t, "of a file that is not synced", d.Rename("b", "a"))
	has(t, d, seen{"a", "xy", 0}, seen{"c", "12345", 2})
}

func TestP2_3Remove(t *testing.T) {
	d := sample(t)
	ok(t, "Remove", d.Remove("a"))
	has(t, d, seen{"b", "xy", 0}, seen{"c", "z", 1})
	ok(t, "Append", d.Append("a", []byte("n")))
	has(t, d, seen{"a", "n", 0}, seen{"b", "xy", 0}, seen{"c", "z", 1})
}

func TestP2_3StaysOverACrash(t *testing.T) {
	d := sample(t)
	ok(t, "Rename", d.Rename("a", "d"))
	ok(t, "Rename", d.Rename("b", "c"))
	ok(t, "Append", d.Append("e", []byte("n")))
	ok(t, "Append", d.Append("f", nil))
	ok(t, "Crash", d.Crash(nil))
	has(t, d, seen{"c", "", 0}, seen{"d", "12", 2}, seen{"e", "", 0}, seen{"f", "", 0})
	ok(t, "Remove", d.Remove("d"))
	ok(t, "Crash", d.Crash([]api.Tear{}))
	has(t, d, seen{"c", "", 0}, seen{"e", "", 0}, seen{"f", "", 0})
}

func TestP2_4Crash(t *testing.T) {
	cases := []struct {
		tears []api.Tear
		a, b  string
	}{
		{nil, "12", ""},
		{[]api.Tear{{Name: "a"}}, "12", ""},
		{[]api.Tear{{Name: "a", Keep: 1, Junk: []byte("9")}}, "1239", ""},
		{[]api.Tear{{Name: "a", Keep: 3}}, "12345", ""},
		{[]api.Tear{{Name: "a", Junk: []byte("999")}}, "12999", ""},
		{[]api.Tear{{Name: "a", Keep: 2, Junk: []byte("9")}}, "12349", ""},
		{[]api.Tear{{Name: "b", Keep: 2}, {Name: "a", Junk: []byte("9")}}, "129", "xy"},
		{[]api.Tear{{Name: "b", Keep: 1, Junk: []byte{}}, {Name: "c"}}, "12", "x"},
	}
	for _, c := range cases {
		d := sample(t)
		ok(t, "Crash", d.Crash(c.tears))
		has(t, d, seen{"a", c.a, len(c.a)}, seen{"b", c.b, len(c.b)}, seen{"c", "z", 1})
		ok(t, "Append", d.Append("a", []byte("n")))
		has(t, d, seen{"a", c.a + "n", len(c.a)}, seen{"b", c.b, len(c.b)}, seen{"c", "z", 1})
	}
}

func TestP2_4CrashErrors(t *testing.T) {
	whole := api.Tear{Name: "a", Keep: 3}
	cases := []struct {
		what  string
		tears []api.Tear
		want  api.Errno
	}{
		{"no name", []api.Tear{{}}, api.ErrName},
		{"a wrong name, and a wrong Keep", []api.Tear{{Name: "x y", Keep: -1}}, api.ErrName},
		{"no file", []api.Tear{{Name: "d"}}, api.ErrFile},
		{"no file, and a wrong Keep", []api.Tear{{Name: "d", Keep: -1}}, api.ErrFile},
		{"twice", []api.Tear{whole, whole}, api.ErrTear},
		{"twice, with another between", []api.Tear{{Name: "a"}, {Name: "b"}, {Name: "a"}}, api.ErrTear},
		{"Keep below nought", []api.Tear{{Name: "a", Keep: -1, Junk: []byte("99")}}, api.ErrTear},
		{"Keep far below nought", []api.Tear{{Name: "a", Keep: math.MinInt, Junk: []byte("99")}}, api.ErrTear},
		{"a byte too many is kept", []api.Tear{{Name: "a", Keep: 4}}, api.ErrTear},
		{"a byte of junk too many", []api.Tear{{Name: "a", Junk: []byte("9999")}}, api.ErrTear},
		{"both together are too many", []api.Tear{{Name: "a", Keep: 2, Junk: []byte("99")}}, api.ErrTear},
		{"a huge Keep", []api.Tear{{Name: "a", Keep: math.MaxInt}}, api.ErrTear},
		{"a huge Keep, and junk", []api.Tear{{Name: "a", Keep: math.MaxInt, Junk: []byte("9")}}, api.ErrTear},
		{"junk of a synced file", []api.Tear{{Name: "c", Junk: []byte("9")}}, api.ErrTear},
		{"a right one ahead", []api.Tear{whole, {Name: "b", Keep: 3}}, api.ErrTear},
		{"a right one ahead of no name", []api.Tear{whole, {Name: ""}}, api.ErrName},
		{"the first wrong one tells: the tear", []api.Tear{{Name: "a", Keep: 4}, {Name: ""}, {Name: "d"}}, api.ErrTear},
		{"the first wrong one tells: the file", []api.Tear{{Name: "d"}, {Name: ""}}, api.ErrFile},
	}
	d := sample(t)
	for _, c := range cases {
		fails(t, d, c.what, c.want, func() api.Errno { return d.Crash(c.tears) })
	}
	many := slices.Repeat([]api.Tear{whole}, 1000)
	fails(t, d, "very often", api.ErrTear, func() api.Errno { return d.Crash(many) })
}

func TestP2_4CrashMemory(t *testing.T) {
	d := sample(t)
	tears := []api.Tear{{Name: "a", Keep: 1, Junk: append(make([]byte, 0, 8), '9')}}
	ok(t, "Crash", d.Crash(tears))
	ok(t, "Append", d.Append("a", []byte("n")))
	tear := tears[0]
	if tear.Name != "a" || tear.Keep != 1 || !bytes.Equal(tear.Junk[:8], append([]byte("9"), make([]byte, 7)...)) {
		t.Error("Crash changed what was handed in")
	}
	tear.Junk[0] = 'w'
	has(t, d, seen{"a", "1239n", 4}, seen{"b", "", 0}, seen{"c", "z", 1})
}

func TestP2_5Wipe(t *testing.T) {
	d := sample(t)
	ok(t, "Wipe", d.Wipe())
	has(t, d)
	if d.Room() != 100 || d.Used() != 0 || len(d.Files()) != 0 {
		t.Error("a wiped disk")
	}
	ok(t, "Wipe", d.Wipe())
	ok(t, "Append", d.Append("b", make([]byte, 100)))
	if _, synced, e := d.Size("b"); synced != 0 || e != api.OK {
		t.Errorf("behind a Wipe: %d, %v", synced, e)
	}
}

func TestP2_5Copy(t *testing.T) {
	d := sample(t)
	c := d.Copy()
	was := look(d)
	if !look(c).is(was) {
		t.Fatalf("the copy is %v", look(c))
	}
	c.Append("a", []byte("6"))
	c.Sync("b")
	c.Remove("c")
	if !look(d).is(was) {
		t.Error("a copy's calls change the disk")
	}
	c = d.Copy()
	d.Crash([]api.Tear{{Name: "a", Junk: []byte("999")}})
	d.Append("a", []byte("9"))
	d.Rename("b", "c")
	if !look(c).is(was) {
		t.Error("the disk's calls change a copy")
	}
	d.Wipe()
	if !look(c).is(was) || c.Append("d", make([]byte, 93)) != api.ErrFull || c.Append("d", make([]byte, 92)) != api.OK {
		t.Error("a copy has the same room")
	}
	empty, _ := disk.New(0)
	if e := empty.Copy(); e == nil || e.Room() != 0 || e.Append("a", nil) != api.OK || len(empty.Files()) != 0 {
		t.Error("a copy of an empty disk")
	}
}

func TestP2_6NoDisk(t *testing.T) {
	for name, d := range map[string]*disk.Disk{"nil": nil, "plain": {}, "new": new(disk.Disk)} {
		errs := []api.Errno{d.Append("a", nil), d.Append("", nil), d.Sync("a"), d.Sync(""),
			d.Rename("a", "b"), d.Rename("", ""), d.Remove("a"), d.Remove(""), d.Crash(nil),
			d.Crash([]api.Tear{{}}), d.Wipe()}
		for _, file := range []string{"a", ""} {
			b, e := d.Read(file)
			n, synced, f := d.Size(file)
			errs = append(errs, e, f)
			if len(b) != 0 || n != 0 || synced != 0 {
				t.Errorf("%s: %x, %d, %d", name, b, n, synced)
			}
		}
		for i, e := range errs {
			if e != api.ErrNil {
				t.Errorf("%s: call %d: %v", name, i, e)
			}
		}
		if len(d.Files()) != 0 || d.Used() != 0 || d.Room() != 0 || d.Copy() != nil {
			t.Errorf("%s: it is no disk", name)
		}
	}
}

func TestNames(t *testing.T) {
	d, _ := disk.New(100)
	for _, name := range rightNames() {
		ok(t, name, d.Append(name, []byte("1")))
		ok(t, name, d.Sync(name))
		ok(t, name, d.Rename(name, name))
		ok(t, name, d.Crash([]api.Tear{{Name: name}}))
		if b, e := d.Read(name); string(b) != "1" || e != api.OK {
			t.Errorf("Read(%q): %q, %v", name, b, e)
		}
		ok(t, name, d.Remove(name))
	}
}

func TestWrongNames(t *testing.T) {
	d := sample(t)
	for _, name := range wrongNames() {
		calls := map[string]func() api.Errno{
			"Append": func() api.Errno { return d.Append(name, nil) },
			"a full": func() api.Errno { return d.Append(name, make([]byte, 101)) },
			"Sync":   func() api.Errno { return d.Sync(name) },
			"Remove": func() api.Errno { return d.Remove(name) },
			"from":   func() api.Errno { return d.Rename(name, "a") },
			"to":     func() api.Errno { return d.Rename("a", name) },
			"none":   func() api.Errno { return d.Rename("d", name) },
			"both":   func() api.Errno { return d.Rename(name, name) },
			"Crash":  func() api.Errno { return d.Crash([]api.Tear{{Name: name}}) },
		}
		for what, call := range calls {
			fails(t, d, what+" "+strconv.Quote(name), api.ErrName, call)
		}
		b, e := d.Read(name)
		n, synced, f := d.Size(name)
		if len(b) != 0 || e != api.ErrName || n != 0 || synced != 0 || f != api.ErrName {
			t.Errorf("%q: %x, %v, %d, %d, %v", name, b, e, n, synced, f)
		}
	}
}

func TestNoSuchFile(t *testing.T) {
	d := sample(t)
	fails(t, d, "Sync", api.ErrFile, func() api.Errno { return d.Sync("d") })
	fails(t, d, "Remove", api.ErrFile, func() api.Errno { return d.Remove("d") })
	fails(t, d, "Rename", api.ErrFile, func() api.Errno { return d.Rename("d", "a") })
	fails(t, d, "Rename to itself", api.ErrFile, func() api.Errno { return d.Rename("d", "d") })
	b, e := d.Read("d")
	n, synced, f := d.Size("d")
	if len(b) != 0 || e != api.ErrFile || n != 0 || synced != 0 || f != api.ErrFile {
		t.Errorf("%x, %v, %d, %d, %v", b, e, n, synced, f)
	}
}
