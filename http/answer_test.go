package http_test

import (
	"math"
	"strconv"
	"strings"
	"testing"

	"trolley/api"
	"trolley/http"
)

func TestP14_3Reason(t *testing.T) {
	for _, s := range statuses {
		if got := http.Reason(s.status); got != s.reason {
			t.Errorf("Reason(%d) = %q, want %q", s.status, got, s.reason)
		}
	}
	known := 0
	for status := -2000; status <= 2000; status++ {
		if http.Reason(status) != "" {
			known++
		}
	}
	if known != len(statuses) {
		t.Errorf("%d statuses have a Reason", known)
	}
	for _, status := range []int{math.MinInt, 1<<32 + 200, 1<<16 + 200, -200, math.MaxInt} {
		if http.Reason(status) != "" {
			t.Errorf("Reason(%d) = %q", status, http.Reason(status))
		}
	}
}

func TestP14_3Find(t *testing.T) {
	l := headers(header("x-a", "1"), header("X-B", "2"), header("x-b", "3"), header("Content-Length", ""), header("x-c", " 4 "), header("", "5"), header("K", "6"), header("é", "7"), header("x y", "8"), header("\xff", "9"))
	for _, c := range []struct{ name, value string }{
		{"x-a", "1"}, {"X-A", "1"}, {"X-a", "1"}, {"x-b", "2"}, {"X-B", "2"}, {"content-length", ""}, {"CONTENT-LENGTH", ""}, {"x-c", " 4 "}, {"", "5"}, {"k", "6"}, {"é", "7"}, {"X Y", "8"}, {"\xff", "9"},
	} {
		if value, ok := http.Find(l, c.name); value != c.value || !ok {
			t.Errorf("Find(.., %q) = %q, %v", c.name, value, ok)
		}
	}
	for _, name := range []string{"x", "x-", "x-d", "x-a ", " x-a", "x-aa", "x_a", "a", "\u212a", "É", "\xfe", "X\tY", "x-[", "\x0d-a", "x\x0da", "1"} { // the kelvin sign is no K
		if value, ok := http.Find(l, name); value != "" || ok {
			t.Errorf("Find(.., %q) = %q, %v", name, value, ok)
		}
	}
	for _, l := range [][]api.Header{nil, {}} {
		for _, name := range []string{"", "x"} {
			if value, ok := http.Find(l, name); value != "" || ok {
				t.Errorf("Find(none, %q) = %q, %v", name, value, ok)
			}
		}
	}
	// Beside letters nothing has two forms.
	for i := range 256 {
		for j := range 256 {
			a, b := string([]byte{byte(i)}), string([]byte{byte(j)})
			want := i == j || strings.Contains(small+capital, a) && strings.Contains(small+capital, b) && i|32 == j|32
			if _, ok := http.Find(headers(header(a, "v")), b); ok != want {
				t.Errorf("Find of %q by %q: %v", a, b, ok)
			}
		}
	}
	// What Parse told is found.
	r := taken(t, asks("X-Cart-Token: AA", "x-cart-token: BB"))
	if value, ok := http.Find(r.Headers, "X-CART-TOKEN"); value != "AA" || !ok {
		t.Errorf("%q, %v", value, ok)
	}
}

func TestP14_4Write(t *testing.T) {
	writes(t, api.Answer{Status: 200, Body: "hi"}, text("HTTP/1.1 200 OK", "content-length: 2", "", "hi"))
	writes(t, api.Answer{Status: 200, Headers: []api.Header{}}, text("HTTP/1.1 200 OK", "content-length: 0", "", ""))
	for _, s := range statuses {
		first := "HTTP/1.1 " + strconv.Itoa(s.status) + " " + s.reason
		writes(t, api.Answer{Status: s.status}, text(first, "content-length: 0", "", ""))
		writes(t, api.Answer{Status: s.status, Headers: headers(header("x-cart-token", "AAAA"), header("y", ""), header("x-cart-token", "a \t b")), Body: s.reason + "\n"},
			text(first, "x-cart-token: AAAA", "y: ", "x-cart-token: a \t b", "content-length: "+strconv.Itoa(len(s.reason)+1), "", s.reason+"\n"))
	}
	for _, status := range []int{0, 1, 100, 199, 201, 204, 301, 401, 403, 406, 499, 502, 506, 508, 600, 2000, -200, math.MinInt, math.MaxInt} {
		unwritten(t, api.Answer{Status: status, Body: "hi"}, api.ErrArg)
		unwritten(t, api.Answer{Status: status, Headers: append(many(40), header("X", " ")), Body: strings.Repeat("x", 5000)}, api.ErrArg) // ahead of all that
	}
	writes(t, api.Answer{Status: 404, Headers: headers(header("host", "a"), header("transfer-encoding", "x"), header("content-lengths", "9"))}, text("HTTP/1.1 404 Not Found", "host: a", "transfer-encoding: x", "content-lengths: 9", "content-length: 0", "", ""))
}

// wrongHeaders are none as Write writes them.
func wrongHeaders() []api.Header {
	l := headers(
		header("", "v"), header("X", "v"), header("x-A", "v"), header("Content-Length", "0"), header("CONTENT-LENGTH", "0"), header("x ", "v"), header(" x", "v"), header("x y", "v"), header("x:", "v"), header("x: y", "v"), header("é", "v"), header("x\r\ny", "v"),
		header("x\x00", "v"), header("x\x7f", "v"), header(strings.Repeat("n", 65), "v"), header(strings.Repeat("n", 70000), "v"),
		header("x", " "), header("x", "\t"), header("x", " v"), header("x", "v "), header("x", "\tv"), header("x", "v\t"), header("x", "a\r\nb"), header("x", "\r"), header("x", "\n"), header("x", "a\x00b"), header("x", "a\x1fb"), header("x", "a\x7fb"), header("x", "é"), header("x", "\xff"),
		header("x", strings.Repeat("v", api.MaxValue+1)), header("x", strings.Repeat("v", 1<<20)),
	)
	for _, c := range bytesThat(inTokens, false) {
		l = append(l, header(string([]byte{c}), "v"), header("a"+string([]byte{c}), "v"), header(string([]byte{c})+"a", "v"))
	}
	for _, c := range bytesThat(capital, true) {
		l = append(l, header(string([]byte{c}), "v"), header("a"+string([]byte{c})+"a", "v"))
	}
	for _, c := range bytesThat(seen()+" \t", false) {
		l = append(l, header("x", string([]byte{c})), header("x", "a"+string([]byte{c})+"b"))
	}
	return l
}

func TestP14_4Headers(t *testing.T) {
	for _, h := range append(wrongHeaders(), header("content-length", "0"), header("content-length", ""), header("content-length", "2")) {
		for _, l := range [][]api.Header{{h}, {h, header("a", "b")}, {header("a", "b"), h}, append(many(31), h), append(many(40), h)} { // ahead of how many there are
			unwritten(t, api.Answer{Status: 200, Headers: l, Body: "hi"}, api.ErrHeader)
			unwritten(t, api.Answer{Status: 200, Headers: l, Body: strings.Repeat("x", 5000)}, api.ErrHeader)
		}
	}
	for _, c := range bytesThat(inTokens, true) {
		if strings.Contains(capital, string([]byte{c})) {
			continue
		}
		for _, name := range []string{string([]byte{c}), "a" + string([]byte{c}), string([]byte{c}) + "a"} {
			writes(t, api.Answer{Status: 200, Headers: headers(header(name, "v"))}, text(answers, name+": v", "content-length: 0", "", ""))
		}
	}
	for _, value := range []string{"", "v", "a b", "a\tb", "a \t b", ":", "a: b", seen(), strings.Repeat("v", api.MaxValue-1), strings.Repeat("v", api.MaxValue), "a" + strings.Repeat(" ", api.MaxValue-2) + "b"} {
		writes(t, api.Answer{Status: 200, Headers: headers(header("x", value))}, text(answers, "x: "+value, "content-length: 0", "", ""))
	}
	writes(t, api.Answer{Status: 200, Headers: headers(header(strings.Repeat("n", 64), "v"))}, text(answers, strings.Repeat("n", 64)+": v", "content-length: 0", "", ""))
}

func TestP14_4HowMany(t *testing.T) {
	for _, n := range []int{0, 1, 30, 31} {
		writes(t, api.Answer{Status: 200, Headers: many(n), Body: "x"}, text(append(append([]string{answers}, lines(many(n))...), "content-length: 1", "", "x")...))
	}
	for _, n := range []int{32, 33, 1000} {
		unwritten(t, api.Answer{Status: 200, Headers: many(n)}, api.ErrFull)
		unwritten(t, api.Answer{Status: 200, Headers: many(n), Body: strings.Repeat("x", 5000)}, api.ErrFull)
	}
	l := append(many(29), header("a", strings.Repeat("v", api.MaxValue)), header("b", strings.Repeat("v", api.MaxValue)), header("c", ""))
	unwritten(t, api.Answer{Status: 200, Headers: l}, api.ErrFull) // ahead of how long the head is
	for _, n := range []int{0, 1, 9, 10, 99, 100, 4095, 4096} {
		body := strings.Repeat("x", n)
		writes(t, api.Answer{Status: 200, Body: body}, text(answers, "content-length: "+strconv.Itoa(n), "", body))
	}
	for _, n := range []int{4097, 5000, 1 << 20} {
		unwritten(t, api.Answer{Status: 200, Body: strings.Repeat("x", n)}, api.ErrBody)
		unwritten(t, api.Answer{Status: 200, Headers: l[:31], Body: strings.Repeat("x", n)}, api.ErrBody) // ahead of that too
	}
	unwritten(t, api.Answer{Status: 200, Headers: l[:31]}, api.ErrLong)
}

// long is an answer whose head has so many bytes.
func long(n int, body string) (api.Answer, string) {
	first := filled(answers, n-len("\r\ncontent-length: ")-len(strconv.Itoa(len(body))))
	a := api.Answer{Status: 200, Body: body}
	for _, line := range first[1:] {
		name, value, _ := strings.Cut(line, ": ")
		a.Headers = append(a.Headers, header(name, value))
	}
	return a, text(append(first, "content-length: "+strconv.Itoa(len(body)), "", body)...)
}

func TestP14_4MaxHead(t *testing.T) {
	for _, body := range []string{"", "x", "0123456789", strings.Repeat("x", 4096)} {
		for _, n := range []int{1000, api.MaxHead - 5, api.MaxHead - 4, api.MaxHead - 3, api.MaxHead - 2, api.MaxHead - 1, api.MaxHead} {
			a, b := long(n, body)
			if i := strings.Index(b, "\r\n\r\n"); i != n {
				t.Fatalf("a head of %d bytes has %d", n, i)
			}
			writes(t, a, b)
			reads(t, b, a)
		}
		for _, n := range []int{api.MaxHead + 1, api.MaxHead + 2, api.MaxHead + 100, 3 * api.MaxHead} {
			a, b := long(n, body)
			unwritten(t, a, api.ErrLong)
			unread(t, b, api.ErrLong)
		}
	}
}

func TestP14_5Read(t *testing.T) {
	reads(t, text("HTTP/1.1 200 OK", "content-length: 2", "", "hi"), api.Answer{Status: 200, Body: "hi"})
	for _, s := range statuses {
		first := "HTTP/1.1 " + strconv.Itoa(s.status) + " " + s.reason
		reads(t, text(first, "content-length: 0", "", ""), api.Answer{Status: s.status})
		reads(t, text(first, "x: y", "z: ", "x: a \t b", "content-length: 6", "", "\r\n\r\n\x00\xff"), api.Answer{Status: s.status, Headers: headers(header("x", "y"), header("z", ""), header("x", "a \t b")), Body: "\r\n\r\n\x00\xff"})
	}
}

func TestP14_5StatusLines(t *testing.T) {
	for _, b := range []string{"", "x", "\r\n", "\r\n\r", answers, answers + "\r\n", answers + "\r\ncontent-length: 0\r\n", answers + "\n\n", answers + "\ncontent-length: 0\n\n", strings.Repeat("x", 100000)} {
		unread(t, b, api.ErrLine) // no end of a head
	}
	for _, line := range []string{
		"", " ", "HTTP/1.1", "HTTP/1.1 ", "HTTP/1.1 200", "HTTP/1.1 200 ", "HTTP/1.1 200OK", "HTTP/1.1 200  OK", "HTTP/1.1  200 OK", " HTTP/1.1 200 OK", "HTTP/1.1 200 OK ", "HTTP/1.1\t200 OK", "HTTP/1.1 200\tOK", "HTTP/1.1 200 OK\t", "HTTP/1.1 200 OK\r", "HTTP/1.1 200 OK\n", "\nHTTP/1.1 200 OK", "HTTP/1.1 200 OK x", "HTTP/1.1 200 OKx",
		"HTTP/1.0 200 OK", "HTTP/1.2 200 OK", "HTTP/2.0 200 OK", "http/1.1 200 OK", "HTTP/1.1x 200 OK", "xHTTP/1.1 200 OK", "HTTP/11 200 OK", "200 OK", " 200 OK",
		"HTTP/1.1 200 ok", "HTTP/1.1 200 Ok", "HTTP/1.1 200 Fine", "HTTP/1.1 200 Not Found", "HTTP/1.1 404 OK", "HTTP/1.1 404 not found", "HTTP/1.1 404 Not  Found", "HTTP/1.1 404 Not", "HTTP/1.1 404 NotFound", "HTTP/1.1 413 Payload Too Large", "HTTP/1.1 413 Request Entity Too Large", "HTTP/1.1 414 Request-URI Too Long",
		"HTTP/1.1 201 Created", "HTTP/1.1 201 ", "HTTP/1.1 201", "HTTP/1.1 201 OK", "HTTP/1.1 204 No Content", "HTTP/1.1 0 ", "HTTP/1.1 -1 ", "HTTP/1.1 1000 ", "HTTP/1.1 301 Moved Permanently", "HTTP/1.1 502 Bad Gateway", "HTTP/1.1 999 ", "HTTP/1.1  ", "HTTP/1.1 x ",
		"HTTP/1.1 0200 OK", "HTTP/1.1 00200 OK", "HTTP/1.1 +200 OK", "HTTP/1.1 -200 OK", "HTTP/1.1 200.0 OK", "HTTP/1.1 2e2 OK", "HTTP/1.1 0xc8 OK", "HTTP/1.1 2_00 OK", "HTTP/1.1 20 OK", "HTTP/1.1 2000 OK", "HTTP/1.1 OK", "HTTP/1.1 OK OK", "HTTP/1.1 18446744073709551816 OK", "HTTP/1.1 4294967496 OK", "HTTP/1.1 ٢٠٠ OK",
		get, "HTTP/1.1 " + strings.Repeat("2", 100000) + " OK",
	} {
		unread(t, text(line, "content-length: 0", "", ""), api.ErrLine)
		unread(t, text(line, "", ""), api.ErrLine)
		unread(t, text(line, "X: y", "", "a body"), api.ErrLine)                                    // ahead of wrong headers
		unread(t, text(append(append([]string{line}, lines(many(50))...), "", "")...), api.ErrLine) // and of too many
		unread(t, text(line, "content-length: 5000", "", ""), api.ErrLine)
	}
	unread(t, "\r\n\r\n", api.ErrLine)
	unread(t, "\r\n\r\n"+text(answers, "content-length: 0", "", ""), api.ErrLine)
	unread(t, "\r\n"+text(answers, "content-length: 0", "", ""), api.ErrLine)
}

func TestP14_5Headers(t *testing.T) {
	for _, h := range wrongHeaders() {
		line := h.Name + ": " + h.Value
		if strings.Contains(line, "\r\n") || h == header("x:", "v") || h == header("x: y", "v") {
			continue // these are other lines, or other headers
		}
		for _, l := range [][]string{{line}, {line, "a: b"}, {"a: b", line}} {
			unread(t, text(append(append([]string{answers}, l...), "content-length: 2", "", "hi")...), api.ErrHeader)
			unread(t, text(append(append([]string{answers}, l...), "", "hi")...), api.ErrHeader) // ahead of the missing length
		}
	}
	for _, line := range []string{
		"x", "x:", "x:y", "x :y", "x : y", "x:  y", "x: y ", "x:\ty", "x: \ty", "x: y\t", ": y", ":", ": ", " x: y", "x:y: z", "x y: z", "X: y", "x: a\rb", "x: a\nb", "x\n: y", "\rx: y", "x: y\r", "\nx: y", "x: y\n",
		"content-length", "content-length:", "content-length:0", "content-length : 0", "content-length:  0", "content-length: 0 ", "Content-Length: 0", "CONTENT-LENGTH: 0",
	} {
		unread(t, text(answers, line, "content-length: 0", "", ""), api.ErrHeader)
		unread(t, text(answers, line, "", ""), api.ErrHeader)
		unread(t, text(answers, line, "", "a body"), api.ErrHeader)
		unread(t, text(answers, line, "content-length: 5000", "", ""), api.ErrHeader)
		unread(t, text(append(filled(answers, api.MaxHead+100, line), "content-length: 0", "", "")...), api.ErrHeader)
	}
	for _, l := range [][]string{
		{"content-length: 0", "content-length: 0"}, {"content-length: 0", "x: y"}, {"x: y", "content-length: 0", "z: y"}, {"content-length: 0", "x: y", "content-length: 0"}, {"content-length: x", "content-length: 0"}, {"content-length: ", "content-length: 0"},
	} {
		unread(t, text(append(append([]string{answers}, l...), "", "")...), api.ErrHeader)
	}
	for _, value := range []string{"", "x", "00", "01", "000000000", "-0", "-1", "+1", "1.0", "1 1", "1,1", "0x1", "1e0", "1_0", "1000000000", "9999999999", "0000000001", "18446744073709551616", strings.Repeat("1", 1000), "١"} {
		unread(t, text(answers, "content-length: "+value, "", ""), api.ErrHeader)
		unread(t, text(answers, "content-length: "+value, "", "x"), api.ErrHeader)
	}
}

func TestP14_5HowMany(t *testing.T) {
	for _, n := range []int{0, 1, 30, 31} {
		reads(t, text(append(append([]string{answers}, lines(many(n))...), "content-length: 1", "", "x")...), api.Answer{Status: 200, Headers: many(n), Body: "x"})
	}
	for _, n := range []int{32, 33, 34, 1000} {
		unread(t, text(append(append([]string{answers}, lines(many(n))...), "content-length: 1", "", "x")...), api.ErrHeader)
		unread(t, text(append(append([]string{answers}, lines(many(n+1))...), "", "x")...), api.ErrHeader)
	}
	unread(t, text(append(append([]string{answers}, lines(many(32))...), "", "")...), api.ErrBody) // as many as may be, without a length
	unread(t, text(append(append([]string{answers}, lines(many(31))...), "", "")...), api.ErrBody)
}

func TestP14_5Bodies(t *testing.T) {
	x := func(n int) string { return strings.Repeat("x", n) }
	for _, b := range []string{text(answers, "", ""), text(answers, "", "hi"), text(answers, "x: y", "", ""), text(answers, "x: y", "", "hi"), text(answers, "content-lengths: 2", "", "hi")} {
		unread(t, b, api.ErrBody)
	}
	for _, n := range []int{0, 1, 2, 9, 10, 11, 4095, 4096} {
		for _, m := range []int{0, 1, 2, 3, 9, 10, 11, 12, 4094, 4095, 4096, 4097} {
			b := text(answers, "content-length: "+strconv.Itoa(n), "", x(m))
			if n == m {
				reads(t, b, api.Answer{Status: 200, Body: x(m)})
			} else {
				unread(t, b, api.ErrBody)
			}
		}
	}
	for _, n := range []int{4097, 4098, 5000, 100000} { // as long as it says, and too long
		unread(t, text(answers, "content-length: "+strconv.Itoa(n), "", x(n)), api.ErrBody)
		unread(t, text(answers, "content-length: "+strconv.Itoa(n), "", ""), api.ErrBody)
	}
	unread(t, text(answers, "content-length: 999999999", "", "x"), api.ErrBody)
	for _, length := range []string{"content-length: 1", "content-length: 5000", "z: y"} { // ahead of how long the head is
		unread(t, text(append(filled(answers, api.MaxHead+100), length, "", "")...), api.ErrBody)
	}
}

func TestP14_6ThereAndBack(t *testing.T) {
	g := &dice{x: 146}
	for range 5000 {
		a := api.Answer{Status: statuses[g.below(len(statuses))].status, Body: g.of("", "x", "\r\n\r\n", "Not Found\n", "\x00\xff", strings.Repeat("y", 4096), "bread 1 0.20\nmilk 3 0.10\n")}
		for range g.below(6) {
			a.Headers = append(a.Headers, header(g.of("a", "x-b", "host", "x-cart-token", "!~"), g.of("", "v", "a b", "a\tb", ":", "x: y", strings.Repeat("w", 1000))))
		}
		b, e := http.Write(a)
		if e != api.OK {
			t.Fatalf("Write(%v): %v", a, e)
		}
		reads(t, string(b), a)
		if t.Failed() {
			t.Fatalf("%v", a)
		}
	}
	// And what is read, in whatever way it came to be, is written so.
	read, not := 0, 0
	for range 60000 {
		b := g.answer()
		for range g.below(3) {
			b = g.turned(b)
		}
		a, e := http.Read([]byte(b))
		if e != api.OK {
			not++
			continue
		}
		read++
		writes(t, a, b)
		if t.Failed() {
			t.Fatalf("%q", b)
		}
	}
	if read < 5000 || not < 5000 {
		t.Errorf("%d are read, %d are not", read, not)
	}
}

func TestExamplesOfTheDocument(t *testing.T) {
	writes(t, api.Answer{Status: 200, Body: "hi"}, "HTTP/1.1 200 OK\r\ncontent-length: 2\r\n\r\nhi")
	unwritten(t, api.Answer{Status: 201}, api.ErrArg)
}
