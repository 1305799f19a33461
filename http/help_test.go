package http_test

import (
	"slices"
	"strconv"
	"strings"
	"testing"

	"trolley/api"
	"trolley/http"
)

const (
	get     = "GET / HTTP/1.1"
	host    = "host: a"
	answers = "HTTP/1.1 200 OK"
)

// text is lines with CR LF between each two.
func text(lines ...string) string { return strings.Join(lines, "\r\n") }

// asks is a request of such headers, behind a host, without a body.
func asks(headers ...string) string {
	return text(slices.Concat([]string{get, host}, headers, []string{"", ""})...)
}

func header(name, value string) api.Header { return api.Header{Name: name, Value: value} }

func headers(l ...api.Header) []api.Header { return l }

// many is so many headers, each with a name of its own.
func many(n int) []api.Header {
	var l []api.Header
	for i := range n {
		l = append(l, header("x-"+strconv.Itoa(i), strconv.Itoa(i*i)))
	}
	return l
}

func lines(l []api.Header) []string {
	var all []string
	for _, h := range l {
		all = append(all, h.Name+": "+h.Value)
	}
	return all
}

// shown is a text that is not too long to be looked at.
func shown(s string) string {
	if len(s) > 300 {
		return strconv.Quote(s[:150]) + ".." + strconv.Quote(s[len(s)-100:]) + ", " + strconv.Itoa(len(s)) + " bytes"
	}
	return strconv.Quote(s)
}

func sameRequest(a, b api.Request) bool {
	return a.Method == b.Method && a.Path == b.Path && slices.Equal(a.Headers, b.Headers) && a.Body == b.Body
}

func sameAnswer(a, b api.Answer) bool {
	return a.Status == b.Status && slices.Equal(a.Headers, b.Headers) && a.Body == b.Body
}

// parses tells that Parse takes bytes as a request.
func parses(t *testing.T, b string, want api.Request) {
	t.Helper()
	if r, status := http.Parse([]byte(b)); status != 0 || !sameRequest(r, want) {
		t.Errorf("Parse(%s) = %d, %s %s %v %s", shown(b), status, r.Method, shown(r.Path), len(r.Headers), shown(r.Body))
	}
}

// taken tells that Parse takes bytes as some request.
func taken(t *testing.T, b string) api.Request {
	t.Helper()
	r, status := http.Parse([]byte(b))
	if status != 0 {
		t.Errorf("Parse(%s): %d", shown(b), status)
	}
	return r
}

func refused(t *testing.T, b string, want int) {
	t.Helper()
	r, status := http.Parse([]byte(b))
	if status != want {
		t.Errorf("Parse(%s): %d, want %d", shown(b), status, want)
	}
	if !sameRequest(r, api.Request{}) {
		t.Errorf("Parse(%s): %d, beside a request", shown(b), status)
	}
}

func prints(t *testing.T, r api.Request, want string) {
	t.Helper()
	if b, e := http.Print(r); e != api.OK || string(b) != want {
		t.Errorf("Print = %s, %v, want %s", shown(string(b)), e, shown(want))
	}
}

func unprinted(t *testing.T, r api.Request) {
	t.Helper()
	if b, e := http.Print(r); e != api.ErrArg || len(b) != 0 {
		t.Errorf("Print(%s %s ..) = %s, %v", shown(r.Method), shown(r.Path), shown(string(b)), e)
	}
}

func writes(t *testing.T, a api.Answer, want string) {
	t.Helper()
	if b, e := http.Write(a); e != api.OK || string(b) != want {
		t.Errorf("Write = %s, %v, want %s", shown(string(b)), e, shown(want))
	}
}

func unwritten(t *testing.T, a api.Answer, want api.Errno) {
	t.Helper()
	if b, e := http.Write(a); e != want || len(b) != 0 {
		t.Errorf("Write(%d, %d headers, %d bytes) = %s, %v, want %v", a.Status, len(a.Headers), len(a.Body), shown(string(b)), e, want)
	}
}

func reads(t *testing.T, b string, want api.Answer) {
	t.Helper()
	if a, e := http.Read([]byte(b)); e != api.OK || !sameAnswer(a, want) {
		t.Errorf("Read(%s) = %v, %d %v %s", shown(b), e, a.Status, len(a.Headers), shown(a.Body))
	}
}

func unread(t *testing.T, b string, want api.Errno) {
	t.Helper()
	a, e := http.Read([]byte(b))
	if e != want {
		t.Errorf("Read(%s): %v, want %v", shown(b), e, want)
	}
	if !sameAnswer(a, api.Answer{}) {
		t.Errorf("Read(%s): %v, beside an answer", shown(b), e)
	}
}

// bytesThat is all bytes that are one of a text's, or none of these.
func bytesThat(s string, among bool) []byte {
	var l []byte
	for i := range 256 {
		if strings.Contains(s, string([]byte{byte(i)})) == among {
			l = append(l, byte(i))
		}
	}
	return l
}

const (
	small    = "abcdefghijklmnopqrstuvwxyz"
	capital  = "ABCDEFGHIJKLMNOPQRSTUVWXYZ"
	digits   = "0123456789"
	inTokens = small + capital + digits + "!#$%&'*+-.^_`|~"
)

// seen is the bytes from 33 to 126.
func seen() string {
	var b []byte
	for c := byte(33); c <= 126; c++ {
		b = append(b, c)
	}
	return string(b)
}

// statuses are those that have a Reason, with it.
var statuses = []struct {
	status int
	reason string
}{
	{200, "OK"}, {400, "Bad Request"}, {404, "Not Found"}, {405, "Method Not Allowed"}, {413, "Content Too Large"}, {414, "URI Too Long"}, {431, "Request Header Fields Too Large"},
	{500, "Internal Server Error"}, {501, "Not Implemented"}, {503, "Service Unavailable"}, {504, "Gateway Timeout"}, {505, "HTTP Version Not Supported"}, {507, "Insufficient Storage"},
}

// filled is the lines of a head of so many bytes: a first one, some headers, and more of them that fill it up.
func filled(first string, size int, others ...string) []string {
	l := append([]string{first}, others...)
	for {
		rest := size - len(text(l...))
		if rest <= 0 {
			return l
		}
		line := "x: " + strings.Repeat("v", min(max(rest-len("\r\nx: "), 0), api.MaxValue))
		if left := rest - len("\r\n"+line); left > 0 && left < len("\r\nx: v") { // what is left must have room for a line
			line = line[:len(line)-10]
		}
		l = append(l, line)
	}
}

// dice are numbers that look thrown, the same ones each time.
type dice struct{ x uint64 }

func (g *dice) below(n int) int {
	g.x = g.x*6364136223846793005 + 1442695040888963407
	return int(g.x >> 33 % uint64(n))
}

func (g *dice) of(l ...string) string { return l[g.below(len(l))] }

// turned is a text with a few bytes put in, left out, or in the place of others.
func (g *dice) turned(s string) string {
	b := []byte(s)
	for range 1 + g.below(2) {
		i := g.below(len(b) + 1)
		with := []byte(g.of("\r", "\n", "\r\n", "\r\n\r\n", " ", "\t", ":", ": ", "A", "a", "0", "9", "/", "\x00", "\x7f", "\xff", "é", "~", "!", string([]byte{byte(g.below(256))})))
		out := min(g.below(3), len(b)-i)
		if g.below(3) == 0 {
			with = nil
		}
		b = slices.Replace(b, i, i+out, with...)
	}
	return string(b)
}
