package seglog_test

import (
	"maps"
	"slices"
	"strconv"
	"strings"
	"testing"

	"trolley/api"
	"trolley/disk"
	"trolley/seglog"
)

func empty(t *testing.T, room int) (*seglog.Log, *disk.Disk) {
	t.Helper()
	d, e := disk.New(room)
	ok(t, "New", e)
	l, _ := open(t, d)
	return l, d
}

func TestP7_3Append(t *testing.T) {
	l, d := empty(t, 4096)
	is(t, d, image{})
	appendAll(t, l, "a", "bc")
	is(t, d, image{"log.1": {framesOf("a", "bc"), 0}})
	appendAll(t, l, "\x00", long("x", 200))
	is(t, d, image{"log.1": {framesOf("a", "bc", "\x00", long("x", 200)), 0}})
	holds(t, d, "a", "bc", "\x00", long("x", 200))
}

func TestP7_3WrongRecords(t *testing.T) {
	l, d := empty(t, 1<<20)
	for range 2 {
		fails(t, d, "nil", api.ErrArg, func() api.Errno { return l.Append(nil) })
		fails(t, d, "an empty one", api.ErrArg, func() api.Errno { return l.Append([]byte{}) })
		fails(t, d, "one byte too many", api.ErrLong, func() api.Errno { return l.Append(make([]byte, api.MaxFrame+1)) })
		fails(t, d, "very many", api.ErrLong, func() api.Errno { return l.Append(make([]byte, 1<<22)) })
		appendAll(t, l, long("most", api.MaxFrame)) // by which the segment is full
	}
	holds(t, d, long("most", api.MaxFrame), long("most", api.MaxFrame))
	if !slices.Equal(l.Segments(), []int{1, 2}) {
		t.Errorf("Segments() = %v", l.Segments())
	}
}

func TestP7_3TheLastSegment(t *testing.T) {
	for _, n := range []int{api.Segment - 1, api.Segment, api.Segment + 1, 2 * api.Segment} {
		l, d := empty(t, 1<<16)
		first := fill("f", n)
		appendAll(t, l, first)
		is(t, d, image{"log.1": {frameOf(first), 0}})
		appendAll(t, l, "next")
		if n < api.Segment {
			is(t, d, image{"log.1": {framesOf(first, "next"), 0}})
		} else {
			is(t, d, image{"log.1": {frameOf(first), n}, "log.2": {frameOf("next"), 0}})
		}
		holds(t, d, first, "next")
	}
}

func TestP7_3ManySegments(t *testing.T) {
	l, d := empty(t, 1<<20)
	files, text := image{}, ""
	var records []string
	for n := 1; n <= 12; {
		r := long(strconv.Itoa(len(records)), 1+len(records)*37%900)
		appendAll(t, l, r)
		records = append(records, r)
		text += frameOf(r)
		files[seglog.Name(n)] = file{text, 0}
		is(t, d, files)
		if len(text) >= api.Segment {
			files[seglog.Name(n)] = file{text, len(text)} // which is seen only when the next one begins
			appendAll(t, l, "x")
			records = append(records, "x")
			n++
			text = frameOf("x")
			files[seglog.Name(n)] = file{text, 0}
			is(t, d, files)
		}
	}
	holds(t, d, records...)
}

func TestP7_3GoesOn(t *testing.T) {
	d := plain(map[string]string{"log.9": framesOf("a"), "log.10": framesOf("b"), "log.2": framesOf("c"), "log.011": framesOf("d"), "log.11x": "", "log.1000000000": ""})
	l, records := open(t, d)
	appendAll(t, l, "e")
	ok(t, "Sync", l.Sync())
	if b, _ := d.Read("log.10"); string(b) != framesOf("b", "e") || !slices.Equal(records, []string{"c", "a", "b"}) {
		t.Errorf("log.10 is %q, behind %q", b, records)
	}
	holds(t, d, "c", "a", "b", "e")
	full := fill("f", api.Segment)
	d = plain(map[string]string{"log.41": frameOf(full)})
	l, _ = open(t, d)
	appendAll(t, l, "a")
	is(t, d, image{"log.41": {frameOf(full), api.Segment}, "log.42": {frameOf("a"), 0}})
	d = plain(map[string]string{"log.41": frameOf(full), "log.43": ""})
	l, _ = open(t, d)
	appendAll(t, l, "a")
	is(t, d, image{"log.41": {frameOf(full), api.Segment}, "log.43": {frameOf("a"), 0}})
}

func TestP7_3NoNumberLeft(t *testing.T) {
	almost := fill("f", api.Segment-1)
	d := plain(map[string]string{"log.999999999": frameOf(almost)})
	l, _ := open(t, d)
	appendAll(t, l, "last")
	for range 2 {
		want(t, "Append", l.Append([]byte("a")), api.ErrLog)
		want(t, "a wrong record comes first", l.Append(nil), api.ErrArg)
		want(t, "a long record comes first", l.Append(make([]byte, api.MaxFrame+1)), api.ErrLong)
	}
	whole := framesOf(almost, "last")
	is(t, d, image{"log.999999999": {whole, len(whole)}})
	ok(t, "Sync", l.Sync())
	holds(t, d, almost, "last")

	d = plain(map[string]string{"log.999999998": frameOf(fill("f", api.Segment))})
	l, _ = open(t, d)
	appendAll(t, l, "a")
	if !slices.Equal(l.Segments(), []int{999999998, 999999999}) {
		t.Errorf("Segments() = %v", l.Segments())
	}
}

func TestP7_4Sync(t *testing.T) {
	l, d := empty(t, 1<<16)
	ok(t, "Sync of nothing", l.Sync())
	is(t, d, image{})
	appendAll(t, l, "a", "bc")
	ok(t, "Sync", l.Sync())
	appendAll(t, l, "def")
	whole := framesOf("a", "bc", "def")
	is(t, d, image{"log.1": {whole, len(framesOf("a", "bc"))}})
	torn := d.Copy()
	ok(t, "Crash", torn.Crash(nil))
	holds(t, torn, "a", "bc")
	ok(t, "Sync", l.Sync())
	ok(t, "Sync", l.Sync())
	is(t, d, image{"log.1": {whole, len(whole)}})
	big := fill("b", api.Segment)
	appendAll(t, l, big, "in log.2")
	ok(t, "Sync", l.Sync())
	ok(t, "Crash", d.Crash(nil))
	holds(t, d, "a", "bc", "def", big, "in log.2")
}

func TestP7_5Replace(t *testing.T) {
	l, d := empty(t, 1<<18)
	replaced := func(number int, records ...string) {
		t.Helper()
		ok(t, "Replace", l.Replace(bytesOf(records)))
		text := framesOf("") + framesOf(records...)
		is(t, d, image{seglog.Name(number): {text, len(text)}})
		torn := d.Copy()
		ok(t, "Crash", torn.Crash(nil))
		holds(t, torn, records...)
	}
	replaced(1)
	replaced(2, "a", "bc")
	appendAll(t, l, "d")
	holds(t, d, "a", "bc", "d")
	replaced(3, "e")
	appendAll(t, l, fill("x", api.Segment), fill("y", api.Segment), "z")
	replaced(6, "f", long("g", api.Segment), long("h", api.MaxFrame), "i")
	appendAll(t, l, "j")
	if !slices.Equal(l.Segments(), []int{6, 7}) {
		t.Errorf("a replaced segment that is full: %v", l.Segments())
	}
	replaced(8)
	appendAll(t, l, "k")
	is(t, d, image{"log.8": {framesOf("", "k"), 5}})
	holds(t, d, "k")
}

func TestP7_5GoesOn(t *testing.T) {
	d := plain(map[string]string{"log.9": framesOf("a"), "log.10": framesOf("b"), "log.2": framesOf("c"), "log.011": framesOf("d"), "x": "y"})
	l, _ := open(t, d)
	ok(t, "Replace", l.Replace(bytesOf([]string{"e"})))
	is(t, d, image{"log.11": {framesOf("", "e"), 11}, "log.011": {framesOf("d"), 0}, "x": {"y", 0}})
}

func TestP7_5WrongRecords(t *testing.T) {
	l, d := empty(t, 1<<20)
	appendAll(t, l, "a", "bc")
	tooLong := make([]byte, api.MaxFrame+1)
	cases := []struct {
		recs [][]byte
		want api.Errno
	}{
		{[][]byte{nil}, api.ErrArg},
		{[][]byte{{}}, api.ErrArg},
		{[][]byte{{1}, {2}, {}}, api.ErrArg},
		{[][]byte{tooLong}, api.ErrLong},
		{[][]byte{{1}, tooLong}, api.ErrLong},
		{[][]byte{{1}, tooLong, nil}, api.ErrLong},
		{[][]byte{nil, tooLong}, api.ErrArg},
	}
	for i, x := range cases {
		fails(t, d, "case "+strconv.Itoa(i), x.want, func() api.Errno { return l.Replace(x.recs) })
	}
	d = plain(map[string]string{"log.999999999": framesOf("a")})
	l, _ = open(t, d)
	fails(t, d, "no number left", api.ErrLog, func() api.Errno { return l.Replace(nil) })
	fails(t, d, "no number left", api.ErrLog, func() api.Errno { return l.Replace([][]byte{{1}}) })
	fails(t, d, "a wrong record first", api.ErrArg, func() api.Errno { return l.Replace([][]byte{{1}, nil}) })
	fails(t, d, "a long record first", api.ErrLong, func() api.Errno { return l.Replace([][]byte{tooLong}) })
	appendAll(t, l, "b")
	holds(t, d, "a", "b")
	d = plain(map[string]string{"log.999999998": framesOf("a")})
	l, _ = open(t, d)
	ok(t, "the last number", l.Replace([][]byte{{'b'}}))
	is(t, d, image{"log.999999999": {framesOf("", "b"), 11}})
}

func TestP7_5TheCallsOfTheDisk(t *testing.T) {
	d := plain(map[string]string{"log.9": framesOf("a"), "log.10": framesOf("b"), "log.2": framesOf("c")})
	w, calls := traced(d)
	ok(t, "Replace", seglog.On(w).Replace(bytesOf([]string{"d", "e"})))
	wanted := []string{"append log.new", "sync log.new", "sync log.10", "rename log.new log.11", "remove log.2", "remove log.9", "remove log.10"}
	if !slices.Equal(*calls, wanted) {
		t.Errorf("the calls are %q, want %q", *calls, wanted)
	}
}

// An error ahead of the rename leaves all as it was, one behind it the new records.
func TestP7_5Errors(t *testing.T) {
	files := image{"log.1": {framesOf("a"), 6}, "log.2": {framesOf("b", "c"), 12}}
	stops := []string{"append log.new", "sync log.new", "sync log.2", "rename log.new log.3", "remove log.1", "remove log.2"}
	for i, stop := range stops {
		d := diskOf(1000, files)
		l := seglog.On(watched{d, func(call string) api.Errno {
			if call == stop {
				return api.ErrTear
			}
			return api.OK
		}})
		want(t, stop, l.Replace(bytesOf([]string{"d"})), api.ErrTear)
		if i <= slices.Index(stops, "rename log.new log.3") {
			is(t, d, files)
			holds(t, d, "a", "b", "c")
			continue
		}
		holds(t, d, "d")
		ok(t, "Crash", d.Crash(nil))
		holds(t, d, "d")
	}
}

func TestP7_5NoRoom(t *testing.T) {
	recs := []string{"d", "ef"}
	need := len(framesOf("", "d", "ef"))
	for room := 18; room < 18+2*need; room++ {
		d := diskOf(room, image{"log.1": {framesOf("a"), 6}})
		l, _ := open(t, d)
		appendAll(t, l, "b")
		appendAll(t, l, "c")
		was := look(d)
		e := l.Replace(bytesOf(recs))
		if room-18 >= need {
			ok(t, "Replace", e)
			holds(t, d, recs...)
			continue
		}
		want(t, "Replace", e, api.ErrFull)
		is(t, d, was)
		holds(t, d, "a", "b", "c")
	}
}

func TestP7_5TooManyFiles(t *testing.T) {
	for _, more := range []int{api.MaxFiles - 2, api.MaxFiles - 1} {
		files := image{"log.1": {framesOf("a"), 6}}
		for i := range more {
			files["f"+strconv.Itoa(i)] = file{}
		}
		d := diskOf(100, files)
		l, _ := open(t, d)
		if more == api.MaxFiles-1 {
			fails(t, d, "Replace", api.ErrFull, func() api.Errno { return l.Replace(nil) })
			continue
		}
		ok(t, "Replace", l.Replace(bytesOf([]string{"b"})))
		holds(t, d, "b")
	}
}

func TestP7_6SegmentsAndBytes(t *testing.T) {
	l, d := empty(t, 1<<16)
	tells := func(bytes int, segments ...int) {
		t.Helper()
		if !slices.Equal(l.Segments(), segments) || l.Bytes() != bytes {
			t.Errorf("%v, %d; want %v, %d", l.Segments(), l.Bytes(), segments, bytes)
		}
	}
	tells(0)
	appendAll(t, l, "a")
	tells(6, 1)
	full := fill("f", api.Segment)
	appendAll(t, l, full)
	tells(6+api.Segment, 1)
	appendAll(t, l, "bc")
	tells(6+api.Segment+7, 1, 2)
	ok(t, "Replace", l.Replace(bytesOf([]string{"d"})))
	tells(11, 3)
	d.Append("other", []byte("1234"))
	d.Append("log.04", []byte("1234"))
	tells(11, 3)
	got := l.Segments()
	got[0] = 77
	tells(11, 3)
	l, _ = open(t, plain(map[string]string{"log.11": framesOf("a"), "log.9": framesOf("b"), "log.100": "", "log.10": framesOf("")}))
	tells(17, 9, 10, 11, 100)
}

func TestP7_10Full(t *testing.T) {
	for room := range 40 {
		l, d := empty(t, room)
		var records []string
		for i := range 6 {
			r := long(strconv.Itoa(i), 1+i*5%7)
			if d.Used()+len(frameOf(r)) <= room {
				appendAll(t, l, r)
				records = append(records, r)
			} else {
				fails(t, d, "Append", api.ErrFull, func() api.Errno { return l.Append([]byte(r)) })
			}
			holds(t, d, records...)
		}
		if room < 6 && len(d.Files()) != 0 {
			t.Errorf("with room for %d: %v", room, look(d))
		}
		ok(t, "Sync", l.Sync())
		holds(t, d, records...)
	}
}

// A new segment for which there is no room is no file; what was synced ahead of it stays so.
func TestP7_10NoRoomForASegment(t *testing.T) {
	full := fill("f", api.Segment)
	l, d := empty(t, api.Segment+6)
	appendAll(t, l, full)
	for range 3 {
		want(t, "Append", l.Append([]byte("bc")), api.ErrFull)
		is(t, d, image{"log.1": {frameOf(full), api.Segment}})
		ok(t, "Sync", l.Sync())
		if !slices.Equal(l.Segments(), []int{1}) || l.Bytes() != api.Segment {
			t.Errorf("%v, %d", l.Segments(), l.Bytes())
		}
	}
	appendAll(t, l, "a")
	is(t, d, image{"log.1": {frameOf(full), api.Segment}, "log.2": {frameOf("a"), 0}})
	holds(t, d, full, "a")
}

func TestP7_10TooManyFiles(t *testing.T) {
	full := fill("f", api.Segment)
	l, d := empty(t, api.MaxRoom)
	for i := range api.MaxFiles - 1 {
		d.Append("f"+strconv.Itoa(i), nil)
	}
	appendAll(t, l, full)
	want(t, "Append", l.Append([]byte("a")), api.ErrFull)
	holds(t, d, full)
	ok(t, "Remove", d.Remove("f7"))
	appendAll(t, l, "a")
	holds(t, d, full, "a")

	l, d = empty(t, api.MaxRoom)
	for range api.MaxFiles {
		appendAll(t, l, full)
	}
	want(t, "Append", l.Append([]byte("a")), api.ErrFull)
	if n := len(l.Segments()); n != api.MaxFiles || l.Bytes() != n*api.Segment {
		t.Errorf("%d segments, %d bytes", n, l.Bytes())
	}
	want(t, "Replace", l.Replace(nil), api.ErrFull)
	holds(t, d, slices.Repeat([]string{full}, api.MaxFiles)...)
}

func TestNoLog(t *testing.T) {
	for name, l := range map[string]*seglog.Log{"nil": nil, "plain": {}, "new": new(seglog.Log)} {
		for i, e := range []api.Errno{l.Append([]byte("a")), l.Append(nil), l.Append(make([]byte, api.MaxFrame+1)), l.Sync(), l.Replace(nil), l.Replace([][]byte{{1}}), l.Replace([][]byte{nil})} {
			if e != api.ErrNil {
				t.Errorf("%s: call %d: %v", name, i, e)
			}
		}
		if l.Segments() != nil || l.Bytes() != 0 {
			t.Errorf("%s: it is no log", name)
		}
	}
}

func TestMemory(t *testing.T) {
	l, d := empty(t, 1<<16)
	rec, recs := roomy("abc"), append(make([][]byte, 0, 4), roomy("de"), roomy("f"))
	ok(t, "Append", l.Append(rec))
	if !untouched(rec, "abc") {
		t.Error("Append wrote into what was handed in")
	}
	copy(rec, "xxx")
	holds(t, d, "abc")
	ok(t, "Replace", l.Replace(recs))
	if !untouched(recs[0], "de") || !untouched(recs[1], "f") || recs[:4][2] != nil || recs[:4][3] != nil {
		t.Error("Replace wrote into what was handed in")
	}
	copy(recs[0], "xx")
	recs[1] = nil
	holds(t, d, "de", "f")

	l, records, e := seglog.Open(d)
	ok(t, "Open", e)
	for i, r := range records {
		r = r[:cap(r)]
		for j := range r {
			r[j] = 'w'
		}
		if strings.Contains(strings.Join(texts(records[i+1:]), ""), "w") {
			t.Error("two records share memory")
		}
	}
	appendAll(t, l, "g")
	holds(t, d, "de", "f", "g")
	if _, got := open(t, d); !slices.Equal(got, []string{"de", "f", "g"}) || records[0][0] != 'w' {
		t.Errorf("%q", got)
	}
}

// Two logs on two disks know nothing of one another.
func TestTwoLogs(t *testing.T) {
	a, da := empty(t, 100)
	b, db := empty(t, 100)
	appendAll(t, a, "a")
	was := look(da)
	appendAll(t, b, "b", "c")
	ok(t, "Replace", b.Replace(bytesOf([]string{"d"})))
	if !maps.Equal(look(da), was) {
		t.Error("another log's disk is changed")
	}
	holds(t, da, "a")
	holds(t, db, "d")
}

func TestExamplesOfTheDocument(t *testing.T) {
	l, d := empty(t, 4096)
	appendAll(t, l, "a")
	ok(t, "Sync", l.Sync())
	appendAll(t, l, "bc")
	if written, synced, _ := d.Size("log.1"); written-synced != 7 {
		t.Errorf("%d bytes are beside", written-synced)
	}
	ok(t, "Crash", d.Crash([]api.Tear{{Name: "log.1", Keep: 2}}))
	_, records := open(t, d)
	if !slices.Equal(records, []string{"a"}) {
		t.Errorf("%q", records)
	}
	l, d = empty(t, 1<<16)
	for n := 0; l.Bytes() < api.Segment; n++ {
		appendAll(t, l, long(strconv.Itoa(n), 100))
	}
	appendAll(t, l, "next")
	is(t, d, image{"log.1": look(d)["log.1"], "log.2": {frameOf("next"), 0}})
}
