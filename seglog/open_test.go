package seglog_test

import (
	"encoding/binary"
	"hash/crc32"
	"maps"
	"math"
	"slices"
	"strconv"
	"strings"
	"testing"

	"trolley/api"
	"trolley/disk"
	"trolley/seglog"
)

func TestP7_1Name(t *testing.T) {
	for n, name := range map[int]string{
		1: "log.1", 2: "log.2", 9: "log.9", 10: "log.10", 4096: "log.4096", 99999999: "log.99999999",
		999999998: "log.999999998", 999999999: "log.999999999",
		0: "", -1: "", -7: "", math.MinInt: "", 1000000000: "", 1 << 32: "", 1<<32 + 1: "", math.MaxInt: "",
	} {
		if got := seglog.Name(n); got != name {
			t.Errorf("Name(%d) = %q, want %q", n, got, name)
		}
	}
}

// noSegments are files that play no part.
func noSegments() []string {
	return []string{
		"log", "log.", "log.0", "log.00", "log.01", "log.007", "log.0000000001", "log.1000000000", "log.9999999999",
		"log.18446744073709551617", "log.1a", "log.a", "log.-1", "log._1", "log.1.2", "log.1_0", "log.0x1", "log.new2", "log.New", "Log.1", "1", "log1", "xlog.1", "log..1", "new",
	}
}

func TestP7_2OtherFilesPlayNoPart(t *testing.T) {
	files := image{"log.1": {framesOf("a"), 0}, "log.new": {framesOf("lost"), 3}}
	for i, name := range noSegments() {
		files[name] = file{strings.Repeat(framesOf("no", ""), i%3) + "junk", i % 4}
	}
	d := diskOf(4096, files)
	l, records := open(t, d)
	if !slices.Equal(records, []string{"a"}) || !slices.Equal(l.Segments(), []int{1}) || l.Bytes() != 6 {
		t.Errorf("%q, %v, %d", records, l.Segments(), l.Bytes())
	}
	delete(files, "log.new")
	files["log.1"] = file{framesOf("a"), 6}
	is(t, d, files)
	ok(t, "Replace", l.Replace(bytesOf([]string{"b"})))
	delete(files, "log.1")
	files["log.2"] = file{framesOf("", "b"), 11}
	is(t, d, files)
}

func TestP7_2Open(t *testing.T) {
	a, b, c, d, none := frameOf("a"), frameOf("bc"), frameOf("def"), frameOf(long("d", 300)), frameOf("")
	big := frameOf(long("big", api.MaxFrame))
	turned := strings.Replace(b, "bc", "bd", 1)
	cases := []struct {
		name    string
		files   map[string]string
		records []string
		left    map[string]string
	}{
		{"an empty disk", nil, nil, nil},
		{"log.new alone", map[string]string{"log.new": a}, nil, nil},
		{"one segment", map[string]string{"log.1": a + b}, []string{"a", "bc"}, map[string]string{"log.1": a + b}},
		{"an empty segment", map[string]string{"log.1": ""}, nil, map[string]string{"log.1": ""}},
		{"an empty segment between", map[string]string{"log.1": a, "log.2": "", "log.3": b}, []string{"a", "bc"}, map[string]string{"log.1": a, "log.2": "", "log.3": b}},
		{"numbers, not texts, rise", map[string]string{"log.10": c, "log.9": b, "log.100": d, "log.1": a}, []string{"a", "bc", "def", long("d", 300)}, map[string]string{"log.10": c, "log.9": b, "log.100": d, "log.1": a}},
		{"the greatest number", map[string]string{"log.999999999": b, "log.999999998": a}, []string{"a", "bc"}, map[string]string{"log.999999999": b, "log.999999998": a}},
		{"the longest record", map[string]string{"log.1": big + a}, []string{long("big", api.MaxFrame), "a"}, map[string]string{"log.1": big + a}},
		{"no payload", map[string]string{"log.1": none}, nil, map[string]string{"log.1": none}},
		{"no payload at the end", map[string]string{"log.1": a, "log.2": b + none}, nil, map[string]string{"log.1": a, "log.2": b + none}},
		{"no payload between", map[string]string{"log.1": a + none + b, "log.2": c}, []string{"bc", "def"}, map[string]string{"log.1": a + none + b, "log.2": c}},
		{"the last frame without a payload", map[string]string{"log.1": a + none + b, "log.2": none + c + none + a}, []string{"a"}, map[string]string{"log.1": a + none + b, "log.2": none + c + none + a}},
		{"half a frame", map[string]string{"log.1": a + b[:4]}, []string{"a"}, map[string]string{"log.1": a}},
		{"a byte of a frame", map[string]string{"log.1": a + b[:1]}, []string{"a"}, map[string]string{"log.1": a}},
		{"half a long frame", map[string]string{"log.1": a + b + big[:len(big)-1]}, []string{"a", "bc"}, map[string]string{"log.1": a + b}},
		{"half of the first frame", map[string]string{"log.1": a[:5]}, nil, nil},
		{"a byte that is turned", map[string]string{"log.1": a + turned + c}, []string{"a"}, map[string]string{"log.1": a}},
		{"a number in another form", map[string]string{"log.1": a + "\x81\x00a" + c}, []string{"a"}, map[string]string{"log.1": a}},
		{"a number without an end", map[string]string{"log.1": a + strings.Repeat("\xff", 300)}, []string{"a"}, map[string]string{"log.1": a}},
		{"a frame that is too long", map[string]string{"log.1": a + frameOf(long("x", api.MaxFrame+1))}, []string{"a"}, map[string]string{"log.1": a}},
		{"greater segments go", map[string]string{"log.2": a + b[:5], "log.3": c, "log.11": d}, []string{"a"}, map[string]string{"log.2": a}},
		{"lower segments stay", map[string]string{"log.2": a, "log.3": b + c[1:], "log.11": d}, []string{"a", "bc"}, map[string]string{"log.2": a, "log.3": b}},
		{"a segment without a whole frame goes", map[string]string{"log.2": a, "log.3": "\x05", "log.11": d}, []string{"a"}, map[string]string{"log.2": a}},
		{"the first place of the first of them", map[string]string{"log.1": a + "x" + b, "log.2": c + "x", "log.3": "x"}, []string{"a"}, map[string]string{"log.1": a}},
		{"what is cut off is not read", map[string]string{"log.1": a + turned + none + b}, []string{"a"}, map[string]string{"log.1": a}},
		{"no payload behind a cut", map[string]string{"log.1": a + turned, "log.2": none + b}, []string{"a"}, map[string]string{"log.1": a}},
		{"no payload ahead of a cut", map[string]string{"log.1": a, "log.2": none + b + turned}, []string{"bc"}, map[string]string{"log.1": a, "log.2": none + b}},
		{"a cut, and log.new", map[string]string{"log.1": a + turned, "log.new": c}, []string{"a"}, map[string]string{"log.1": a}},
	}
	for _, x := range cases {
		d := plain(x.files)
		l, records := open(t, d)
		if !slices.Equal(records, x.records) {
			t.Errorf("%s: the records are %q, want %q", x.name, short(records), short(x.records))
		}
		if now := look(d); !maps.Equal(now, synced(x.left)) {
			t.Errorf("%s: the disk is %v, want %v", x.name, now, synced(x.left))
		}
		bytes := 0
		for _, text := range x.left {
			bytes += len(text)
		}
		if len(l.Segments()) != len(x.left) || l.Bytes() != bytes {
			t.Errorf("%s: %v, %d", x.name, l.Segments(), l.Bytes())
		}
	}
}

// At each beginning of a segment of some frames the frames that are whole are found.
func TestP7_2EachBeginning(t *testing.T) {
	payloads := []string{"a", "", long("b", 120), long("c", 123), "d", long("e", 128), "", "", long("f", 250), long("g", 251), long("h", 252), "i", long("j", 700)}
	whole := framesOf(payloads...)
	for n := range len(whole) + 1 {
		var records []string
		end := 0
		for _, p := range payloads {
			if end+len(frameOf(p)) > n {
				break
			}
			end += len(frameOf(p))
			if records = append(records, p); p == "" {
				records = nil
			}
		}
		d := plain(map[string]string{"log.4": whole[:n]})
		if _, got := open(t, d); !slices.Equal(got, records) {
			t.Fatalf("%d bytes: %q, want %q", n, short(got), short(records))
		}
		left := image{"log.4": {whole[:end], end}}
		if n > 0 && end == 0 {
			left = image{}
		}
		is(t, d, left)
	}
}

func TestP7_2TheCallsOfTheDisk(t *testing.T) {
	a, b := frameOf("a"), frameOf("bc")
	cases := []struct {
		files map[string]string
		calls []string
	}{
		{nil, []string{"remove log.new"}},
		{map[string]string{"log.new": a, "log.10": a, "log.9": b, "x": a}, []string{"remove log.new", "sync log.9", "sync log.10"}},
		{map[string]string{"log.1": a, "log.2": b + "x", "log.3": a, "log.20": a, "log.4": a}, []string{
			"remove log.new", "append log.new", "sync log.new", "rename log.new log.2", "remove log.20", "remove log.4", "remove log.3", "sync log.1", "sync log.2"}},
		{map[string]string{"log.1": a, "log.2": "x", "log.3": "y", "log.11": a}, []string{
			"remove log.new", "remove log.2", "remove log.11", "remove log.3", "sync log.1"}},
	}
	for _, x := range cases {
		w, calls := traced(plain(x.files))
		_, e := seglog.Recover(w)
		ok(t, "Open", e)
		if !slices.Equal(*calls, x.calls) {
			t.Errorf("the calls are %q, want %q", *calls, x.calls)
		}
	}
}

func TestP7_2NoDisk(t *testing.T) {
	for name, d := range map[string]*disk.Disk{"nil": nil, "plain": {}, "new": new(disk.Disk)} {
		l, records, e := seglog.Open(d)
		if l != nil || records != nil || e != api.ErrNil {
			t.Errorf("%s: %v, %q, %v", name, l, records, e)
		}
	}
}

// A cut needs room for the frames that stay.
func TestP7_2NoRoom(t *testing.T) {
	whole, torn := framesOf("a", "bc"), framesOf("a", "bc")+"x"
	for room := len(torn) + 7; room < 2*len(torn)+7; room++ {
		d := diskOf(room, image{"log.1": {torn, 2}, "other": {"1234567", 0}})
		l, records, e := seglog.Open(d)
		if room-len(torn)-7 >= len(whole) {
			if e != api.OK || len(records) != 2 {
				t.Errorf("with room for %d: %q, %v", room, records, e)
			}
			continue
		}
		if l != nil || records != nil || e != api.ErrFull {
			t.Errorf("with room for %d: %v, %q, %v", room, l, records, e)
		}
		is(t, d, image{"log.1": {torn, 2}, "other": {"1234567", 0}})
	}
	d := diskOf(len(torn)+10, image{"log.1": {torn, 0}, "log.new": {"1234567", 7}})
	_, _, e := seglog.Open(d)
	want(t, "Open", e, api.ErrFull)
	is(t, d, image{"log.1": {torn, 0}})
	d = diskOf(7, image{"log.1": {a7, 0}, "log.2": {"", 0}})
	holds(t, d)
	_, _, e = seglog.Open(d)
	ok(t, "Open: a segment without a whole frame needs no room", e)
	is(t, d, image{})
}

const a7 = "\x01aaaaaa" // seven bytes that are no frame

func TestP7_2TooManyFiles(t *testing.T) {
	for _, more := range []int{api.MaxFiles - 1, api.MaxFiles - 2} {
		files := image{"log.1": {framesOf("a") + "x", 0}}
		for i := range more {
			files["f"+strconv.Itoa(i)] = file{}
		}
		d := diskOf(100, files)
		_, records, e := seglog.Open(d)
		if more == api.MaxFiles-2 {
			files["log.1"] = file{framesOf("a"), 6}
			if e != api.OK || len(records) != 1 {
				t.Errorf("with %d files: %q, %v", more+1, records, e)
			}
		} else if e != api.ErrFull || records != nil {
			t.Errorf("with %d files: %q, %v", more+1, records, e)
		}
		is(t, d, files)
	}
}

func TestP7_2Errors(t *testing.T) {
	files := map[string]string{"log.1": framesOf("a"), "log.2": framesOf("b") + "x", "log.3": framesOf("c"), "log.new": "old"}
	w, calls := traced(plain(files))
	_, e := seglog.Recover(w)
	ok(t, "Open", e)
	for stop, call := range *calls {
		d := plain(files)
		done := 0
		w := watched{d, func(string) api.Errno {
			if done++; done > stop {
				return api.ErrTear
			}
			return api.OK
		}}
		_, e := seglog.Recover(w)
		want(t, "an error at "+call, e, api.ErrTear)
		if done != stop+1 {
			t.Errorf("behind an error at %s it goes on", call)
		}
	}
}

// number, payload and opened are what the document says of files, written anew.

func number(name string) int {
	digits, is := strings.CutPrefix(name, "log.")
	if !is || len(digits) < 1 || len(digits) > 9 || digits[0] == '0' || strings.Trim(digits, "0123456789") != "" {
		return 0
	}
	n, _ := strconv.Atoi(digits)
	return n
}

func payload(s string) (string, int, bool) {
	n, k := binary.Uvarint([]byte(s))
	if k <= 0 || k > 9 || n > api.MaxFrame || k > 1 && s[k-1] == 0 || len(s) < k+int(n)+4 {
		return "", 0, false
	}
	p, sum := s[k:k+int(n)], s[k+int(n):k+int(n)+4]
	return p, k + int(n) + 4, binary.LittleEndian.Uint32([]byte(sum)) == crc32.ChecksumIEEE([]byte(p))
}

func opened(was image) (image, []string) {
	now := image{}
	var segments []int
	for name, f := range was {
		if n := number(name); n > 0 {
			segments = append(segments, n)
		} else if name != "log.new" {
			now[name] = f
		}
	}
	slices.Sort(segments)
	var records []string
	for _, n := range segments {
		text, at := was["log."+strconv.Itoa(n)].bytes, 0
		for at < len(text) {
			p, size, whole := payload(text[at:])
			if !whole {
				break
			}
			if records = append(records, p); p == "" {
				records = nil
			}
			at += size
		}
		if at > 0 || len(text) == 0 {
			now["log."+strconv.Itoa(n)] = file{text[:at], at}
		}
		if at < len(text) {
			break
		}
	}
	return now, records
}

// segment is thrown frames, perhaps with something turned, put in or cut off.
func (g *dice) segment() string {
	text := ""
	for range g.below(6) {
		switch g.below(12) {
		case 0:
			text += frameOf("")
		case 1:
			text += frameOf(long("l", 100+g.below(400)))
		default:
			text += frameOf(g.word())
		}
	}
	switch at := g.below(len(text) + 1); g.below(12) {
	case 0:
		text = text[:at]
	case 1:
		text = text[:at] + string(rune('a'+g.below(26))) + text[at:]
	case 2:
		text = text[:at] + string([]byte{byte(g.below(256))}) + text[min(at+1, len(text)):]
	}
	return text
}

func (g *dice) files() image {
	names := append([]string{"log.new", "log.1", "log.2", "log.3", "log.4", "log.9", "log.10", "log.11", "log.100", "log.999999999"}, noSegments()...)
	m := image{}
	for range g.below(9) {
		text := g.segment()
		m[names[g.below(min(len(names), 12+g.below(9)))]] = file{text, g.below(len(text) + 1)}
	}
	return m
}

func TestP7_2Thrown(t *testing.T) {
	g := &dice{x: 72}
	cut, many := 0, 0
	for range 20000 {
		files := g.files()
		d := diskOf(1<<16, files)
		left, records := opened(files)
		_, got := open(t, d)
		if !slices.Equal(got, records) {
			t.Fatalf("%v: %q, want %q", files, got, records)
		}
		is(t, d, left)
		if len(left) < len(files) {
			cut++
		}
		if len(records) > 5 {
			many++
		}
	}
	if cut < 1000 || many < 1000 {
		t.Errorf("%d disks with fewer files then, %d with many records", cut, many)
	}
}

func TestP7_8Again(t *testing.T) {
	g := &dice{x: 78}
	for range 10000 {
		d := diskOf(1<<16, g.files())
		_, first := open(t, d)
		was := look(d)
		_, again := open(t, d)
		if !slices.Equal(first, again) {
			t.Fatalf("%v: %q, then %q", was, first, again)
		}
		is(t, d, was)
		ok(t, "Crash", d.Crash(nil))
		if _, last := open(t, d); !slices.Equal(first, last) {
			t.Fatalf("%v: %q, and behind a crash %q", was, first, last)
		}
	}
}

// A segment with very many frames, short or long ones, is read in good time.
func TestManyFrames(t *testing.T) {
	for _, payloads := range [][]string{{"a", "bc"}, {long("d", 300)}, {"e", long("f", 4000)}} {
		text := framesOf(payloads...)
		n := api.MaxRoom / len(text)
		d := diskOf(api.MaxRoom, image{"log.1": {strings.Repeat(text, n), 0}})
		if _, records := open(t, d); !slices.Equal(records, slices.Repeat(payloads, n)) {
			t.Errorf("%d records, want %d", len(records), n*len(payloads))
		}
	}
	d := diskOf(api.MaxRoom, image{"log.1": {"\xff\xff\x03" + strings.Repeat("x", api.MaxRoom-3), 0}})
	holds(t, d)
}
