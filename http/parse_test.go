package http_test

import (
	"strings"
	"testing"

	"trolley/api"
)

func TestP14_1Requests(t *testing.T) {
	parses(t, text("GET /cart/c1 HTTP/1.1", "Host: a", "", ""), api.Request{Method: "GET", Path: "/cart/c1", Headers: headers(header("host", "a"))})
	parses(t, text("PUT /x HTTP/1.1", "host: a", "content-length: 3", "", "abc"),
		api.Request{Method: "PUT", Path: "/x", Headers: headers(header("host", "a"), header("content-length", "3")), Body: "abc"})
	parses(t, text("DELETE /cart/c1/milk HTTP/1.1", "X-Cart-Token:AAAA", "HOST:  shop \t", "x-cart-token: BBBB", "Accept:", "", ""),
		api.Request{Method: "DELETE", Path: "/cart/c1/milk", Headers: headers(header("x-cart-token", "AAAA"), header("host", "shop"), header("x-cart-token", "BBBB"), header("accept", ""))})
	for _, method := range []string{"GET", "PUT", "POST", "DELETE"} {
		parses(t, text(method+" / HTTP/1.1", host, "", ""), api.Request{Method: method, Path: "/", Headers: headers(header("host", "a"))})
		body := "\r\n\r\n\x00\xff any bytes\n"
		parses(t, text(method+" /?a=b&c=%20 HTTP/1.1", "Content-Length: 17", host, "", body),
			api.Request{Method: method, Path: "/?a=b&c=%20", Headers: headers(header("content-length", "17"), header("host", "a")), Body: body})
	}
}

func TestP14_1NoHead(t *testing.T) {
	for _, b := range []string{"", "G", "\r", "\n", "\r\n", "\r\n\r", "\n\n", "\r\r", "\r\n\n", "\n\r\n\r", get, text(get, host), text(get, host, ""), text(get, host, "") + "\r", get + "\n" + host + "\n\n", "\xff\xfe"} {
		refused(t, b, 400)
	}
	for _, b := range []string{"\r\n\r\n", "\r\n\r\n\r\n", "\r\n" + asks(), "\r\n\r\n" + asks()} { // an empty first line
		refused(t, b, 400)
	}
}

func TestP14_1MaxHead(t *testing.T) {
	for _, n := range []int{api.MaxHead - 4, api.MaxHead - 3, api.MaxHead - 1, api.MaxHead} {
		refused(t, strings.Repeat("x", n), 400)
	}
	for _, n := range []int{api.MaxHead + 1, api.MaxHead + 4, 1 << 20} {
		refused(t, strings.Repeat("x", n), 431)
		refused(t, strings.Repeat("\r", n), 431)
	}
	for _, n := range []int{api.MaxHead - 5, api.MaxHead - 4, api.MaxHead - 1, api.MaxHead} {
		head := text(filled(get, n, host)...)
		if len(head) != n {
			t.Fatalf("a head of %d bytes has %d", n, len(head))
		}
		taken(t, head+"\r\n\r\n")
		refused(t, head+"\r\n\r\nx", 400) // more bytes behind a head are no part of it
		refused(t, head+"\r\n\r\n"+strings.Repeat("x", api.MaxHead), 400)
		for i := range 4 { // without its end
			want := 400
			if n+i > api.MaxHead {
				want = 431
			}
			refused(t, head+"\r\n\r\n"[:i], want)
		}
	}
	for _, n := range []int{api.MaxHead + 1, api.MaxHead + 2, 3 * api.MaxHead} {
		head := text(filled(get, n, host)...)
		refused(t, head+"\r\n\r\n", 431)
		refused(t, head, 431)
		refused(t, "\n"+head[1:]+"\r\n\r\n", 431) // ahead of all that else may be wrong
		refused(t, text(filled("GET / HTTP/1.0", n)...)+"\r\n\r\n", 431)
	}
}

// A CR or LF alone, wherever it stands in a head.
func TestP14_1LinesEnds(t *testing.T) {
	b := text("PUT /x HTTP/1.1", "host: a", "content-length: 3", "x-a:  b c\t", "", "abc")
	head := strings.Index(b, "\r\n\r\n")
	taken(t, b)
	for i := range head + 1 {
		for _, alone := range []string{"\r", "\n", "\n\r", "\r\r", "\n\n", "\r\r\n", "\r\n\n"} {
			refused(t, b[:i]+alone+b[i:], 400)
		}
	}
	for _, b := range []string{
		strings.ReplaceAll(b, "\r\n", "\n"), strings.ReplaceAll(b, "\r\n", "\r"), strings.ReplaceAll(b, "\r\n", "\n\r"),
		strings.Replace(b, "\r\n", "\n", 1), strings.Replace(b, "\r\n", "\r", 1),
	} {
		refused(t, b, 400)
	}
	// It is told ahead of what is wrong with the lines.
	for _, b := range []string{
		text("GET / HTTP/1.0", "host: a\n", "", ""), text("PATCH / HTTP/1.1", "host:\r a", "", ""), text("GET /"+strings.Repeat("x", 2000)+" HTTP/1.1", host, "x: \ny", "", ""),
		asks(append(lines(many(40)), "x: \r")...), text(get, "transfer-encoding: x", "y: \nz", "", ""), asks("content-length: 5000", "x: a\rb"),
	} {
		refused(t, b, 400)
	}
}

func TestP14_1FirstLine(t *testing.T) {
	for _, line := range []string{
		"", " ", "  ", "GET", "GET /", "GET / ", "GET  HTTP/1.1", " / HTTP/1.1", "GET/ HTTP/1.1", "GET /HTTP/1.1", "/ HTTP/1.1", "GET HTTP/1.1",
		"GET  / HTTP/1.1", "GET /  HTTP/1.1", " GET / HTTP/1.1", "GET / HTTP/1.1 ", "GET / HTTP/1.1 x", "GET / / HTTP/1.1", "GET /a b HTTP/1.1", "  GET / HTTP/1.1", "GET   HTTP/1.1",
		"GET\t/\tHTTP/1.1", "GET\t/ HTTP/1.1", "GET /\tHTTP/1.1", "GET / HTTP/1.1\t", "GET /\t HTTP/1.1",
		"get / HTTP/1.1", "Get / HTTP/1.1", "GEt / HTTP/1.1", "G3T / HTTP/1.1", "GET1 / HTTP/1.1", "G-T / HTTP/1.1", "G_T / HTTP/1.1", "GÉT / HTTP/1.1", "@GET / HTTP/1.1", "GET[ / HTTP/1.1", "ABCDEFGHIJKLMNOPQ / HTTP/1.1", "GET: / HTTP/1.1",
		"GET x HTTP/1.1", "GET http://a/ HTTP/1.1", "GET * HTTP/1.1", "GET ./ HTTP/1.1", "GET a/ HTTP/1.1", "GET \\ HTTP/1.1", "GET /\x00 HTTP/1.1", "GET /\x1f HTTP/1.1", "GET /\x7f HTTP/1.1", "GET /\x80 HTTP/1.1", "GET /é HTTP/1.1", "GET /\xff HTTP/1.1",
		"GET / http/1.1", "GET / Http/1.1", "GET / HTTP/1", "GET / HTTP/1.", "GET / HTTP/.1", "GET / HTTP/11", "GET / HTTP/1.10", "GET / HTTP/11.1", "GET / HTTP/01.1", "GET / HTTP/1.1.", "GET / HTTP/1,1", "GET / HTTP/a.1", "GET / HTTP/1.a", "GET / HTTP1.1", "GET / HTTP//1.1", "GET / XHTTP/1.1", "GET / HTTPS/1.1", "GET / TTP/1.1", "GET / HTTP/", "GET / 1.1", "GET / HTTP/-1.1", "GET / HTTP/1.-", "GET / HTTP/1/1", "GET / HTTP/1.:", "GET / HTTP//.1",
	} {
		refused(t, text(line, host, "", ""), 400)
		refused(t, text(line, "", ""), 400)
	}
}

// Each byte in each part of the first line.
func TestP14_1BytesOfTheFirstLine(t *testing.T) {
	for _, c := range bytesThat(capital, false) {
		for _, method := range []string{string([]byte{c}), string([]byte{c}) + "GET", "G" + string([]byte{c}) + "T", "GET" + string([]byte{c})} {
			refused(t, text(method+" / HTTP/1.1", host, "", ""), 400)
		}
	}
	for _, c := range bytesThat(capital, true) {
		refused(t, text("GET"+string([]byte{c})+" / HTTP/1.1", host, "", ""), 501)
	}
	for _, c := range bytesThat(seen(), false) {
		for _, target := range []string{"/" + string([]byte{c}), "/" + string([]byte{c}) + "b", string([]byte{c}) + "/"} {
			refused(t, text("GET "+target+" HTTP/1.1", host, "", ""), 400)
		}
	}
	for _, c := range bytesThat(seen(), true) {
		target := "/a" + string([]byte{c})
		parses(t, text("GET "+target+" HTTP/1.1", host, "", ""), api.Request{Method: "GET", Path: target, Headers: headers(header("host", "a"))})
		if c != '/' {
			refused(t, text("GET "+target[1:]+" HTTP/1.1", host, "", ""), 400)
			refused(t, text("GET "+string([]byte{c})+"/ HTTP/1.1", host, "", ""), 400)
		}
	}
	for i := range 256 {
		for _, v := range []string{"HTTP/" + string([]byte{byte(i)}) + ".1", "HTTP/1." + string([]byte{byte(i)})} {
			b := text("GET / "+v, host, "", "")
			switch {
			case v == "HTTP/1.1":
				taken(t, b)
			case i >= '0' && i <= '9':
				refused(t, b, 505)
			default:
				refused(t, b, 400)
			}
		}
	}
}

func TestP14_1VersionMethodTarget(t *testing.T) {
	long := func(n int) string { return "/" + strings.Repeat("x", n-1) }
	for _, v := range []string{"HTTP/1.0", "HTTP/1.2", "HTTP/0.9", "HTTP/2.0", "HTTP/2.1", "HTTP/0.0", "HTTP/9.9"} {
		refused(t, text("GET / "+v, host, "", ""), 505)
		refused(t, text("PATCH "+long(1025)+" "+v, "no header", "", ""), 505) // ahead of these
	}
	for _, method := range []string{"PATCH", "HEAD", "OPTIONS", "TRACE", "CONNECT", "G", "GE", "GETT", "PUTT", "XPOST", "DELET", "ABCDEFGHIJKLMNOP"} {
		refused(t, text(method+" / HTTP/1.1", host, "", ""), 501)
		refused(t, text(method+" "+long(1025)+" HTTP/1.1", "no header", "", ""), 501)
	}
	refused(t, text("ABCDEFGHIJKLMNOPQ / HTTP/1.1", host, "", ""), 400) // 17 letters
	for _, n := range []int{1, 2, 1023, 1024} {
		parses(t, text("GET "+long(n)+" HTTP/1.1", host, "", ""), api.Request{Method: "GET", Path: long(n), Headers: headers(header("host", "a"))})
	}
	for _, n := range []int{1025, 1026, 9000, 60000} {
		refused(t, text("GET "+long(n)+" HTTP/1.1", host, "", ""), 414)
		refused(t, text("GET "+long(n)+" HTTP/1.1", "no header", "", ""), 414)
		refused(t, text("GET "+long(n)+" HTTP/1.1", "", ""), 414)
		refused(t, text("GET "+long(n)[1:]+" HTTP/1.1", host, "", ""), 400)
		refused(t, text("GET "+long(n)+"\x7f HTTP/1.1", host, "", ""), 400)
	}
	// What can't be a first line is so, whatever else it has.
	for _, line := range []string{"get / HTTP/1.0", "GET x HTTP/1.0", "patch / HTTP/1.1", "PATCH x HTTP/1.1", "PATCH / HTTP/1", "GET  / HTTP/2.0", "PATCH / HTTP/1.1 "} {
		refused(t, text(line, host, "", ""), 400)
	}
}

func TestP14_1MaxHeaders(t *testing.T) {
	want := append(headers(header("host", "a")), many(api.MaxHeaders-1)...)
	parses(t, asks(lines(many(api.MaxHeaders-1))...), api.Request{Method: "GET", Path: "/", Headers: want})
	refused(t, asks(lines(many(api.MaxHeaders))...), 431)
	refused(t, asks(lines(many(1000))...), 431)
	full := lines(many(api.MaxHeaders - 1))
	for _, wrong := range []string{"no header", "x : y", ": x", " x: y", "x: \x00"} {
		refused(t, asks(append(full, wrong)...), 431)                                        // the 33rd is not looked at
		refused(t, asks(append(full[:len(full)-1:len(full)-1], wrong, "x: y")...), 400)      // the 32nd is, first
		refused(t, asks(append([]string{wrong}, lines(many(100))...)...), 400)               // and so is any ahead of it
		refused(t, text(append(append([]string{get}, full[:30]...), wrong, "", "")...), 400) // also without a host
	}
	refused(t, text(append(append([]string{get}, lines(many(33))...), "", "")...), 431)                               // ahead of the host that is not there
	refused(t, text(append(append([]string{get, "transfer-encoding: x", host}, lines(many(31))...), "", "")...), 431) // and of this
	refused(t, text(append(append([]string{get, "content-length: 5000", host}, lines(many(31))...), "", "")...), 431)
}

func TestP14_1NamesOfHeaders(t *testing.T) {
	for i := range 256 {
		c := string([]byte{byte(i)})
		for _, name := range []string{c, c + "b", "a" + c, "a" + c + "b"} {
			switch {
			case strings.Contains(inTokens, c):
				parses(t, asks(name+": v"), api.Request{Method: "GET", Path: "/", Headers: headers(header("host", "a"), header(strings.ToLower(name), "v"))})
			case c == ":" && name[0] == 'a': // a name of one letter, a value that begins there
				parses(t, asks(name+": v"), api.Request{Method: "GET", Path: "/", Headers: headers(header("host", "a"), header("a", name[2:]+": v"))})
			default:
				refused(t, asks(name+": v"), 400)
			}
		}
	}
	name := func(n int) string { return strings.Repeat("n", n) }
	for _, n := range []int{1, 2, 63, 64} {
		parses(t, asks(name(n)+": v"), api.Request{Method: "GET", Path: "/", Headers: headers(header("host", "a"), header(name(n), "v"))})
	}
	for _, n := range []int{0, 65, 66, 1000, 60000} {
		refused(t, asks(name(n)+": v"), 400)
	}
	for _, line := range []string{"x", "x v", ":", ": v", ":v", " x: v", "\tx: v", "x : v", "x\t: v", "x y: v", " : v", "é: v", "\"x\": v", "x;y: v", "(x): v", " v", "\tv", " "} {
		refused(t, asks(line), 400)
		refused(t, asks("y: z", line, "z: y"), 400)
	}
	refused(t, text(get, "Host : a", "", ""), 400) // the document's example
}

func TestP14_1ValuesOfHeaders(t *testing.T) {
	value := func(line, want string) {
		t.Helper()
		parses(t, asks("x:"+line), api.Request{Method: "GET", Path: "/", Headers: headers(header("host", "a"), header("x", want))})
	}
	for _, c := range []struct{ line, want string }{
		{"v", "v"}, {" v", "v"}, {"  v", "v"}, {"\tv", "v"}, {" \t \tv", "v"}, {"v ", "v"}, {"v\t", "v"}, {" v \t ", "v"}, {"\t\tv\t\t", "v"},
		{"", ""}, {" ", ""}, {"\t", ""}, {" \t \t ", ""},
		{" a b", "a b"}, {" a\tb", "a\tb"}, {" a  b ", "a  b"}, {" a \t b\t", "a \t b"}, {" a b\tc d ", "a b\tc d"},
		{":", ":"}, {": v", ": v"}, {" : ", ":"}, {" a:b", "a:b"}, {"\"a, b; c=d\"", "\"a, b; c=d\""}, {" " + seen(), seen()},
	} {
		value(c.line, c.want)
	}
	for i := range 256 {
		c := string([]byte{byte(i)})
		switch {
		case c == " " || c == "\t":
			value(" "+c, "")
			value(" "+c+"b", "b")
			value(" a"+c+"b", "a"+c+"b")
			value(" a"+c, "a")
		case strings.Contains(seen(), c):
			value(" "+c, c)
			value(" "+c+"b", c+"b")
			value(" a"+c+"b", "a"+c+"b")
			value("a"+c, "a"+c)
		default:
			for _, v := range []string{c, c + "b", "a" + c + "b", "a" + c, " " + c + " ", " " + c + " b", "b " + c + " "} {
				refused(t, asks("x:"+v), 400)
				refused(t, asks("x: "+v), 400)
			}
		}
	}
	long := func(n int) string { return strings.Repeat("v", n) }
	for _, n := range []int{api.MaxValue - 1, api.MaxValue} {
		value(" "+long(n), long(n))
		value(strings.Repeat(" \t", 1000)+long(n)+strings.Repeat("\t ", 1000), long(n)) // blanks at the ends are no part of it
		value("a"+strings.Repeat(" ", n-2)+"b", "a"+strings.Repeat(" ", n-2)+"b")
	}
	value(strings.Repeat(" \t", api.MaxValue/2+100), "")
	for _, n := range []int{api.MaxValue + 1, api.MaxValue + 2, api.MaxValue + 1000} {
		refused(t, asks("x:"+long(n)), 400)
		refused(t, asks("x: "+long(n)+" "), 400)
		refused(t, asks("x: a"+strings.Repeat(" ", n-2)+"b"), 400)
	}
}

func TestP14_1HostAndEncoding(t *testing.T) {
	of := func(l ...string) string { return text(append(append([]string{get}, l...), "", "")...) }
	for _, b := range []string{
		of(), of("x: y"), of("hosts: a"), of("hos: a"), of("x-host: a"),
		of("host:"), of("host: "), of("Host: \t "), // it is empty
		of(host, host), of(host, "Host: b"), of("HOST: a", "x: y", "hOsT: a"), of("host:", host), of(host, "host:"), of("host:", "host:"), of(host, host, host),
	} {
		refused(t, b, 400)
	}
	for _, b := range []string{of(host), of("HOST:a"), of("x: y", "hOST:\ta b\t", "z: host"), of("host: :"), of("x-host: b", host, "hosts: c")} {
		taken(t, b)
	}
	for _, b := range []string{
		of(host, "transfer-encoding: chunked"), of("Transfer-Encoding: identity", host), of(host, "TRANSFER-ENCODING:"), of(host, "transfer-encoding: x", "Transfer-encoding: y"),
		of("transfer-encoding: chunked"), of(host, host, "transfer-encoding: x"), of("transfer-encoding: x", "host:"), // ahead of what is wrong with the host
		of(host, "transfer-encoding: x", "content-length: y"), of(host, "content-length: 5000", "transfer-encoding: x"), of(host, "content-length: 1", "content-length: 1", "transfer-encoding: x"),
		of(host, "transfer-encoding: x") + "a body",
	} {
		refused(t, b, 501)
	}
	for _, b := range []string{of(host, "transfer-encodings: x"), of(host, "x-transfer-encoding: chunked"), of(host, "te: chunked")} {
		taken(t, b)
	}
	refused(t, of("content-length: 5000"), 400) // no host, ahead of what is too much
}

func TestP14_1ContentLength(t *testing.T) {
	with := func(body string, l ...string) string { return asks(l...) + body }
	x := func(n int) string { return strings.Repeat("x", n) }
	for _, c := range []struct{ value, body string }{
		{"0", ""}, {"1", "x"}, {"00", ""}, {"000000000", ""}, {"000000003", "abc"}, {"03", "abc"}, {"3", "abc"}, {" \t3\t ", "abc"}, {"4095", x(4095)}, {"4096", x(4096)}, {"000004096", x(4096)},
	} {
		for _, name := range []string{"content-length", "Content-Length", "CONTENT-LENGTH"} {
			want := headers(header("host", "a"), header("content-length", strings.Trim(c.value, " \t")))
			parses(t, with(c.body, name+":"+c.value), api.Request{Method: "GET", Path: "/", Headers: want, Body: c.body})
		}
	}
	for _, value := range []string{
		"", " ", "x", "-1", "-0", "+3", "3.0", "3 3", "3,3", "0x3", "3a", "a3", "1e3", "\"3\"", "٣", "³", "_3", "3_0",
		"1000000000", "0000000003", "0000000000", "9999999999", "00000004097", "18446744073709551619", x(100), strings.Repeat("9", 1000), // 10 digits, and more
	} {
		for _, body := range []string{"", "abc"} {
			refused(t, with(body, "content-length: "+value), 400)
		}
	}
	for _, value := range []string{"4097", "5000", "10000", "000004097", "99999999", "999999999"} {
		for _, body := range []string{"", "abc", x(4096), x(4097)} { // ahead of a body of another length
			refused(t, with(body, "content-length: "+value), 413)
		}
	}
	for _, l := range [][]string{{"3", "3"}, {"3", "4"}, {"3", ""}, {"", "3"}, {"5000", "5000"}, {"3", "5000"}, {"5000", "3"}, {"3", "x"}, {"3", "3", "3"}} {
		var all []string
		for i, v := range l {
			all = append(all, []string{"content-length", "Content-Length", "CONTENT-length"}[i]+": "+v)
		}
		refused(t, with("abc", all...), 400)
	}
	for _, line := range []string{"content-lengths: 3", "x-content-length: 3", "content_length: 3", "contentlength: 3"} {
		taken(t, with("", line))
		refused(t, with("abc", line), 400)
	}
}

func TestP14_1Bodies(t *testing.T) {
	x := func(n int) string { return strings.Repeat("x", n) }
	for _, c := range []struct {
		value string
		n     int
	}{{"0", 0}, {"1", 1}, {"3", 3}, {"100", 100}, {"4095", 4095}, {"4096", 4096}} {
		for _, n := range []int{0, 1, 2, 3, 4, 99, 100, 101, 4094, 4095, 4096, 4097, 5000, 1 << 20} {
			b := asks("content-length: "+c.value) + x(n)
			if n == c.n {
				parses(t, b, api.Request{Method: "GET", Path: "/", Headers: headers(header("host", "a"), header("content-length", c.value)), Body: x(n)})
			} else {
				refused(t, b, 400)
			}
		}
	}
	taken(t, asks())
	for _, more := range []string{"x", "\r", "\n", "\r\n", "\x00", " ", asks(), x(5000), x(1 << 17)} { // without content-length there is none
		refused(t, asks()+more, 400)
	}
	for _, body := range []string{"\r\n\r\n", "\n\r\n\r", "\x00\x00\x00\x00", "\xff\xfe\xfd\xfc", "GET "} { // any bytes
		parses(t, asks("content-length: 4")+body, api.Request{Method: "GET", Path: "/", Headers: headers(header("host", "a"), header("content-length", "4")), Body: body})
	}
	// The document's examples.
	refused(t, text("PUT /x HTTP/1.1", "host: a", "content-length: 3", "", "ab"), 400)
	refused(t, text("PUT /x HTTP/1.1", "host: a", "content-length: 3", "", "abcd"), 400)
	refused(t, text("PUT /x HTTP/1.1", "host: a", "content-length: 5000", "", "abc"), 413)
	refused(t, text("GET /cart/c1 HTTP/1.0", "Host: a", "", ""), 505)
	refused(t, text("PATCH /cart/c1 HTTP/1.1", "Host: a", "", ""), 501)
	refused(t, text("GET /cart/c1 HTTP/1.1", "", ""), 400)
	refused(t, "GET /"+x(9000)+" HTTP/1.1\r\nhost: a\r\n\r\n", 414)
}
