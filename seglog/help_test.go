package seglog_test

import (
	"bytes"
	"encoding/binary"
	"hash/crc32"
	"maps"
	"slices"
	"strconv"
	"strings"
	"testing"

	"trolley/api"
	"trolley/disk"
	"trolley/seglog"
)

// frameOf is a frame as the document says it, made without the program.
func frameOf(p string) string {
	f := binary.AppendUvarint(nil, uint64(len(p)))
	f = append(f, p...)
	return string(binary.LittleEndian.AppendUint32(f, crc32.ChecksumIEEE([]byte(p))))
}

func framesOf(payloads ...string) string {
	all := ""
	for _, p := range payloads {
		all += frameOf(p)
	}
	return all
}

// file is a file's bytes, and how many of them are synced.
type file struct {
	bytes  string
	synced int
}

// image is a disk's files by their names.
type image map[string]file

func look(d *disk.Disk) image {
	m := image{}
	for _, name := range d.Files() {
		b, _ := d.Read(name)
		_, synced, _ := d.Size(name)
		m[name] = file{string(b), synced}
	}
	return m
}

func (m image) String() string {
	var parts []string
	for _, name := range slices.Sorted(maps.Keys(m)) {
		f := m[name]
		parts = append(parts, name+" "+strconv.Itoa(len(f.bytes))+" bytes, "+strconv.Itoa(f.synced)+" synced, "+strconv.Quote(f.bytes[:min(len(f.bytes), 40)]))
	}
	return "{" + strings.Join(parts, "; ") + "}"
}

// diskOf is a disk with files, of which so many bytes are synced as they say.
func diskOf(room int, files image) *disk.Disk {
	d, _ := disk.New(room)
	for name, f := range files {
		d.Append(name, []byte(f.bytes[:f.synced]))
		d.Sync(name)
		d.Append(name, []byte(f.bytes[f.synced:]))
	}
	return d
}

// synced is files of which everything is synced.
func synced(texts map[string]string) image {
	m := image{}
	for name, text := range texts {
		m[name] = file{text, len(text)}
	}
	return m
}

// plain is a roomy disk of files of which nothing is synced.
func plain(texts map[string]string) *disk.Disk {
	m := image{}
	for name, text := range texts {
		m[name] = file{text, 0}
	}
	return diskOf(1<<20, m)
}

func ok(t *testing.T, what string, e api.Errno) {
	t.Helper()
	if e != api.OK {
		t.Fatalf("%s: %v", what, e)
	}
}

func want(t *testing.T, what string, e, want api.Errno) {
	t.Helper()
	if e != want {
		t.Errorf("%s: %v, want %v", what, e, want)
	}
}

// is tells what a disk's files are to be.
func is(t *testing.T, d *disk.Disk, files image) {
	t.Helper()
	if now := look(d); !maps.Equal(now, files) {
		t.Fatalf("the disk is %v, want %v", now, files)
	}
}

// fails runs a call that is to answer an error, and to change nothing on the disk.
func fails(t *testing.T, d *disk.Disk, what string, wanted api.Errno, call func() api.Errno) {
	t.Helper()
	was := look(d)
	want(t, what, call(), wanted)
	if now := look(d); !maps.Equal(now, was) {
		t.Errorf("%s: the disk was %v and is %v", what, was, now)
	}
}

func texts(records [][]byte) []string {
	var l []string
	for _, r := range records {
		l = append(l, string(r))
	}
	return l
}

func open(t *testing.T, d *disk.Disk) (*seglog.Log, []string) {
	t.Helper()
	l, records, e := seglog.Open(d)
	ok(t, "Open", e)
	if l == nil {
		t.Fatal("Open: no log")
	}
	return l, texts(records)
}

// holds tells what the records of a disk's log are to be, without touching the disk.
func holds(t *testing.T, d *disk.Disk, records ...string) {
	t.Helper()
	if _, got := open(t, d.Copy()); !slices.Equal(got, records) {
		t.Fatalf("the records are %q, want %q", short(got), short(records))
	}
}

func short(l []string) []string {
	var cut []string
	for _, s := range l {
		cut = append(cut, s[:min(len(s), 12)])
	}
	return cut
}

func appendAll(t *testing.T, l *seglog.Log, records ...string) {
	t.Helper()
	for _, r := range records {
		ok(t, "Append", l.Append([]byte(r)))
	}
}

func bytesOf(records []string) [][]byte {
	var l [][]byte
	for _, r := range records {
		l = append(l, []byte(r))
	}
	return l
}

// long is a text of so many bytes, unlike others that begin with another word.
func long(word string, n int) string {
	return (word + strings.Repeat("."+word, n))[:n]
}

// fill is a record whose frame has just so many bytes (a few, or some thousands).
func fill(word string, n int) string {
	for size := n - 1; size > 0; size-- {
		if r := long(word, size); len(frameOf(r)) == n {
			return r
		}
	}
	panic("no frame has so many bytes")
}

// dice are numbers that look thrown, the same ones each time.
type dice struct{ x uint64 }

func (g *dice) below(n int) int {
	g.x = g.x*6364136223846793005 + 1442695040888963407
	return int(g.x >> 33 % uint64(n))
}

func (g *dice) word() string {
	return long(strconv.Itoa(g.below(1000)), 1+g.below(9))
}

// watched is a disk that tells of each call by which it is changed, ahead of it, and answers an error in its place, if it is told one.
type watched struct {
	*disk.Disk
	ahead func(call string) api.Errno
}

func (w watched) Append(name string, b []byte) api.Errno {
	if e := w.ahead("append " + name); e != api.OK {
		return e
	}
	return w.Disk.Append(name, b)
}

func (w watched) Sync(name string) api.Errno {
	if e := w.ahead("sync " + name); e != api.OK {
		return e
	}
	return w.Disk.Sync(name)
}

func (w watched) Rename(from, to string) api.Errno {
	if e := w.ahead("rename " + from + " " + to); e != api.OK {
		return e
	}
	return w.Disk.Rename(from, to)
}

func (w watched) Remove(name string) api.Errno {
	if e := w.ahead("remove " + name); e != api.OK {
		return e
	}
	return w.Disk.Remove(name)
}

// traced keeps the calls.
func traced(d *disk.Disk) (watched, *[]string) {
	calls := new([]string)
	return watched{d, func(call string) api.Errno {
		*calls = append(*calls, call)
		return api.OK
	}}, calls
}

// roomy is bytes with room behind their end.
func roomy(s string) []byte {
	return append(make([]byte, 0, len(s)+8), s...)
}

// untouched tells whether roomy bytes are as they were, the room too.
func untouched(b []byte, was string) bool {
	return bytes.Equal(b[:cap(b)], append([]byte(was), make([]byte, cap(b)-len(was))...))
}
