package http_test

import (
	"bytes"
	"strings"
	"testing"

	"trolley/api"
	"trolley/http"
)

// some is a request that can be printed.
func some() api.Request {
	return api.Request{Method: "PUT", Path: "/cart/c1/milk", Headers: headers(header("host", "shop"), header("x-a", ""), header("content-length", "5"), header("x-a", "b \t c")), Body: "2 1.5"}
}

func TestP14_2Print(t *testing.T) {
	prints(t, some(), text("PUT /cart/c1/milk HTTP/1.1", "host: shop", "x-a: ", "content-length: 5", "x-a: b \t c", "", "2 1.5"))
	prints(t, api.Request{Method: "GET", Path: "/", Headers: headers(header("host", "a"))}, text("GET / HTTP/1.1", "host: a", "", ""))
	prints(t, api.Request{Method: "POST", Path: "/", Headers: headers(header("content-length", "000000000"), header("host", "a"))}, text("POST / HTTP/1.1", "content-length: 000000000", "host: a", "", ""))
	most := api.Request{Method: "DELETE", Path: "/" + strings.Repeat("x", 1023), Headers: append(headers(header("host", "a"), header("content-length", "4096")), many(30)...), Body: strings.Repeat("\r\n", 2048)}
	prints(t, most, text(append(append([]string{"DELETE " + most.Path + " HTTP/1.1"}, lines(most.Headers)...), "", most.Body)...))
	long := api.Request{Method: "GET", Path: "/", Headers: headers(header("host", "a"), header(strings.Repeat("n", 64), strings.Repeat("v", api.MaxValue)))}
	prints(t, long, text("GET / HTTP/1.1", "host: a", strings.Repeat("n", 64)+": "+strings.Repeat("v", api.MaxValue), "", ""))
}

// Each of these is one that Parse refuses as it stands in the bytes, or tells otherwise.
func TestP14_2Unprinted(t *testing.T) {
	unprinted(t, api.Request{}) // which is what Parse tells beside a status
	for _, method := range []string{"", "get", "PATCH", "GET ", " GET", "G ET", "GET /x", "GETX", "GET\r\n"} {
		r := some()
		r.Method = method
		unprinted(t, r)
	}
	for _, path := range []string{"", "x", "/ ", " /", "/a b", "/\r\n", "/ HTTP/1.1\r\nx: y\r\nz:", "/\x00", "/é", "/" + strings.Repeat("x", 1024), "/ HTTP/1.1", "/x HTTP/1.0\r\n"} {
		r := some()
		r.Path = path
		unprinted(t, r)
	}
	for _, h := range headers(
		header("", "v"), header("X", "v"), header("x-A", "v"), header("x ", "v"), header(" x", "v"), header("x:", "v"), header("x: y", "v"), header("é", "v"), header(strings.Repeat("n", 65), "v"), header("x: y\r\nz", "v"), header("\r\n", "v"), header("x\r\n", ""),
		header("x", " v"), header("x", "v "), header("x", "\tv"), header("x", "v\t"), header("x", " "), header("x", "\t"), header("x", "a\r\nb: c"), header("x", "a\r\n"), header("x", "\r\n"), header("x", "a\nb"), header("x", "\x00"), header("x", "é"), header("x", "\x7f"),
		header("x", strings.Repeat("v", api.MaxValue+1)), header("x", "y\r\n\r\n"),
		header("host", "b"), header("transfer-encoding", "chunked"), header("content-length", "5"), header("Host", "a"),
	) {
		for at := range len(some().Headers) + 1 {
			r := some()
			r.Headers = append(append(append([]api.Header{}, r.Headers[:at]...), h), r.Headers[at:]...)
			unprinted(t, r)
		}
	}
	for _, body := range []string{"", "2 1.", "2 1.55", strings.Repeat("x", 5000)} {
		r := some()
		r.Body = body
		unprinted(t, r)
	}
	unprinted(t, api.Request{Method: "GET", Path: "/"}) // no host
	unprinted(t, api.Request{Method: "GET", Path: "/", Headers: headers(header("host", ""))})
	unprinted(t, api.Request{Method: "GET", Path: "/", Headers: headers(header("host", "a")), Body: "x"})
	unprinted(t, api.Request{Method: "GET", Path: "/", Headers: headers(header("host", "a"), header("content-length", "4097")), Body: strings.Repeat("x", 4097)})
	unprinted(t, api.Request{Method: "GET", Path: "/", Headers: append(headers(header("host", "a")), many(32)...)})
	unprinted(t, api.Request{Method: "GET", Path: "/", Headers: headers(header("host", "a"), header("x", strings.Repeat("v", api.MaxValue)), header("y", strings.Repeat("v", api.MaxValue)))})
}

func TestP14_2NilAndEmpty(t *testing.T) {
	r := api.Request{Method: "GET", Path: "/", Headers: []api.Header{}}
	unprinted(t, r)
	r.Headers = nil
	unprinted(t, r)
}

func TestP14_8Printed(t *testing.T) {
	g := &dice{x: 148}
	printed, not := 0, 0
	for range 20000 {
		r := api.Request{Method: g.of("GET", "PUT", "POST", "DELETE", "HEAD", "put"), Path: g.of("/", "/cart/c1", "/cart/c1/milk", "/%20", "x", "/ y")}
		for range g.below(3) {
			r.Headers = append(r.Headers, header(g.of("a", "x-b", "accept", "x-cart-token", "X"), g.of("", "v", "a b", " v", "w\r\nx: y")))
		}
		r.Headers = append(r.Headers, header("host", g.of("a", "b", "")))
		r.Body = g.of("", "", "x", "2 1.5", "\r\n\r\n", "\x00\xff")
		if g.below(3) > 0 {
			r.Headers = append(r.Headers, header("content-length", g.of("0", "1", "2", "4", "5", "05")))
		}
		b, e := http.Print(r)
		back, status := http.Parse(b)
		switch {
		case e == api.OK:
			printed++
			if status != 0 || !sameRequest(back, r) {
				t.Fatalf("%q is printed as %q", r, b)
			}
		case e != api.ErrArg || len(b) > 0:
			t.Fatalf("%q is printed as %q, %v", r, b, e)
		default:
			not++
		}
	}
	if printed < 500 || not < 500 {
		t.Errorf("%d are printed, %d are not", printed, not)
	}
}

// What Parse takes is printed in one form, from which it comes back.
func TestP14_8ParsedAndPrinted(t *testing.T) {
	for _, b := range requests() {
		r := taken(t, b)
		again, e := http.Print(r)
		if e != api.OK {
			t.Errorf("Print of Parse of %s: %v", shown(b), e)
		}
		parses(t, string(again), r)
	}
}

// requests are texts that Parse takes, in many forms.
func requests() []string {
	return []string{
		asks(), asks("Accept:"), asks("A:\tb \t"), asks("x-cart-token: AA", "X-Cart-Token: BB"), asks(lines(many(31))...), asks("content-length: 0"),
		text("PUT /cart/c1/milk HTTP/1.1", "HOST:shop", "Content-Length:  0005 ", "", "2 1.5"),
		text("POST /~ HTTP/1.1", "content-length: 4", "hOsT: :", "", "\r\n\r\n"),
		text("DELETE /cart/c1/milk HTTP/1.1", "x: a \t b", "host: h", "content-length: 19", "", asks()[:19]),
		asks("content-length: 27") + asks(),
	}
}

func TestP14_7OneOrTheOther(t *testing.T) {
	g := &dice{x: 147}
	told := map[int]int{}
	for range 60000 {
		b := g.request()
		for range g.below(3) {
			b = g.turned(b)
		}
		r, status := http.Parse([]byte(b))
		told[status]++
		switch status {
		case 0:
			if r.Method == "" || r.Path == "" || len(r.Headers) == 0 {
				t.Fatalf("%q: %q", b, r)
			}
		case 400, 413, 414, 431, 501, 505:
			if !sameRequest(r, api.Request{}) {
				t.Fatalf("%q: %d, %q", b, status, r)
			}
		default:
			t.Fatalf("%q: %d", b, status)
		}
	}
	for _, status := range []int{0, 400, 413, 414, 431, 501, 505} {
		if told[status] < 100 {
			t.Errorf("%d is told %d times", status, told[status])
		}
	}
}

func TestP14_9Case(t *testing.T) {
	g := &dice{x: 149}
	other := func(s string) string {
		b := []byte(s)
		for i := range b {
			switch g.below(3) {
			case 0:
				b[i] = bytes.ToUpper(b[i : i+1])[0]
			case 1:
				b[i] = bytes.ToLower(b[i : i+1])[0]
			}
		}
		return string(b)
	}
	for _, b := range append(requests(), asks("Transfer-Encoding: x"), asks("HOST: b"), asks("content-Length: 5000"), asks("content-length: 3"), asks("content-length: 1", "CONTENT-LENGTH: 1"), text(get, "hos: a", "", ""), asks("content-length: x"), asks("no header")) {
		head, body, _ := strings.Cut(b, "\r\n\r\n")
		want, status := http.Parse([]byte(b))
		for range 50 {
			l := strings.Split(head, "\r\n")
			for i, line := range l[1:] {
				if name, rest, parted := strings.Cut(line, ":"); parted {
					l[i+1] = other(name) + ":" + rest
				}
			}
			turned := text(append(l, "", body)...)
			if r, s := http.Parse([]byte(turned)); s != status || !sameRequest(r, want) {
				t.Fatalf("Parse(%s): %d, of %s: %d", shown(turned), s, shown(b), status)
			}
		}
	}
	parses(t, text(get, "HOST: AbC", "X-A: dEf", "", ""), api.Request{Method: "GET", Path: "/", Headers: headers(header("host", "AbC"), header("x-a", "dEf"))}) // values stay as they are
}

func TestP14_10CutOff(t *testing.T) {
	for _, b := range requests() {
		taken(t, b)
		for i := range b {
			refused(t, b[:i], 400)
		}
		for _, more := range []string{"x", "\r", "\n", "\r\n", "\r\n\r\n", "\x00", " ", b} {
			refused(t, b+more, 400)
		}
	}
	// So it is with whatever is taken.
	g := &dice{x: 1410}
	for range 3000 {
		b := g.request()
		if _, status := http.Parse([]byte(b)); status != 0 || len(b) > 2000 {
			continue
		}
		for i := range b {
			if _, status := http.Parse([]byte(b[:i])); status == 0 {
				t.Fatalf("%q is taken, and its first %d bytes", b, i)
			}
		}
		for _, more := range []string{"x", "\r\n", b} {
			if _, status := http.Parse([]byte(b + more)); status == 0 {
				t.Fatalf("%q is taken, and with %q behind it", b, more)
			}
		}
	}
}
