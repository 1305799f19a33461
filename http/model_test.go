package http_test

import (
	"bytes"
	"math/big"
	"regexp"
	"slices"
	"strconv"
	"strings"
	"testing"

	"trolley/api"
	"trolley/http"
)

// The forms of the document, as expressions.
var (
	oneLine    = regexp.MustCompile(`^[^\r\n]*$`)
	threeParts = regexp.MustCompile(`^([^ ]+) ([^ ]+) ([^ ]+)$`)
	method     = regexp.MustCompile(`^[A-Z]{1,16}$`)
	target     = regexp.MustCompile(`^/[!-~]*$`)
	version    = regexp.MustCompile(`^HTTP/[0-9]\.[0-9]$`)
	headerLine = regexp.MustCompile("^([-a-zA-Z0-9!#$%&'*+.^_`|~]{1,64}):[ \t]*((?:[!-~](?:[ \t!-~]*[!-~])?)?)[ \t]*$")
	length     = regexp.MustCompile(`^[0-9]{1,9}$`)
	written    = regexp.MustCompile("^([-a-z0-9!#$%&'*+.^_`|~]{1,64}): ((?:[!-~](?:[ \t!-~]*[!-~])?)?)$")
	ownLength  = regexp.MustCompile(`^(0|[1-9][0-9]{0,8})$`)
)

// parsed is what Parse is to tell, point by point.
func parsed(b string) (api.Request, int) {
	none := api.Request{}
	at := strings.Index(b, "\r\n\r\n")
	if at < 0 && len(b) > 65536 || at > 65536 {
		return none, 431
	}
	if at < 0 {
		return none, 400
	}
	l := strings.Split(b[:at], "\r\n")
	for _, line := range l {
		if !oneLine.MatchString(line) {
			return none, 400
		}
	}
	parts := threeParts.FindStringSubmatch(l[0])
	switch {
	case parts == nil || !method.MatchString(parts[1]) || !target.MatchString(parts[2]) || !version.MatchString(parts[3]):
		return none, 400
	case parts[3] != "HTTP/1.1":
		return none, 505
	case !slices.Contains([]string{"GET", "PUT", "POST", "DELETE"}, parts[1]):
		return none, 501
	case len(parts[2]) > 1024:
		return none, 414
	}
	r := api.Request{Method: parts[1], Path: parts[2]}
	values := map[string][]string{}
	for i, line := range l[1:] {
		if i == 32 {
			return none, 431
		}
		h := headerLine.FindStringSubmatch(line)
		if h == nil || len(h[2]) > 1<<15 {
			return none, 400
		}
		name := strings.ToLower(h[1])
		r.Headers = append(r.Headers, header(name, h[2]))
		values[name] = append(values[name], h[2])
	}
	switch lengths := values["content-length"]; {
	case values["transfer-encoding"] != nil:
		return none, 501
	case len(values["host"]) != 1 || values["host"][0] == "":
		return none, 400
	case len(lengths) > 1 || len(lengths) == 1 && !length.MatchString(lengths[0]):
		return none, 400
	default:
		n := new(big.Int)
		if len(lengths) == 1 {
			n.SetString(lengths[0], 10)
		}
		if n.Cmp(big.NewInt(4096)) > 0 {
			return none, 413
		}
		r.Body = b[at+4:]
		if n.Cmp(big.NewInt(int64(len(r.Body)))) != 0 {
			return none, 400
		}
	}
	return r, 0
}

// answered is what Read is to tell, point by point.
func answered(b string) (api.Answer, api.Errno) {
	none := api.Answer{}
	at := strings.Index(b, "\r\n\r\n")
	if at < 0 {
		return none, api.ErrLine
	}
	l := strings.Split(b[:at], "\r\n")
	a := api.Answer{}
	for _, s := range statuses {
		if l[0] == "HTTP/1.1 "+strconv.Itoa(s.status)+" "+s.reason {
			a.Status = s.status
		}
	}
	if a.Status == 0 {
		return none, api.ErrLine
	}
	said := ""
	for i, line := range l[1:] {
		h := written.FindStringSubmatch(line)
		if h == nil || len(h[2]) > 1<<15 || i == 32 {
			return none, api.ErrHeader
		}
		if h[1] != "content-length" {
			a.Headers = append(a.Headers, header(h[1], h[2]))
			continue
		}
		if i != len(l)-2 || !ownLength.MatchString(h[2]) {
			return none, api.ErrHeader
		}
		said = h[2]
	}
	a.Body = b[at+4:]
	switch {
	case said != strconv.Itoa(len(a.Body)) || len(a.Body) > 4096:
		return none, api.ErrBody
	case at > 65536:
		return none, api.ErrLong
	}
	return a, api.OK
}

// request is a text that is mostly one, or near to one.
func (g *dice) request() string {
	first := g.of("GET", "GET", "PUT", "PUT", "POST", "DELETE", "PATCH", "get", "") + " " + g.of("/", "/cart/c1", "/cart/c1/milk", "/cart/c1/milk", "/"+strings.Repeat("x", g.below(2)+1022+g.below(3)), "x", "") + " " + g.of("HTTP/1.1", "HTTP/1.1", "HTTP/1.1", "HTTP/1.1", "HTTP/1.1", "HTTP/1.0", "HTTP/1")
	if g.below(3) > 0 {
		first = get
	}
	l := []string{first}
	for range g.below(4) {
		l = append(l, g.of("x:y", "Accept: */*", "X-Cart-Token: AAAA \t", "a:\tb c", "b:", "no header", "c : d", "Transfer-Encoding: chunked", "Host: b", "Content-Length: 3"))
	}
	if g.below(40) == 0 {
		l = append(l, lines(many(27+g.below(10)))...)
	}
	body := g.of("", "x", "2 1.5", "\r\n\r\n", strings.Repeat("b", 4096), strings.Repeat("b", 4097))
	if g.below(8) > 0 {
		l = append(l, g.of("Host: a", "host: shop", "HOST:a", "host: a", "host:"))
	}
	if g.below(8) > 0 {
		l = append(l, "content-length: "+g.of("", "", "0", "00")+strconv.Itoa(len(body)))
	}
	if g.below(100) == 0 {
		l = filled(l[0], api.MaxHead-1+g.below(4), l[1:]...)
	}
	return text(append(l, "", body)...)
}

// answer is a text that is mostly one, or near to one.
func (g *dice) answer() string {
	s := statuses[g.below(len(statuses))]
	l := []string{"HTTP/1.1 " + strconv.Itoa(s.status) + " " + s.reason}
	if g.below(20) == 0 {
		l[0] = g.of("HTTP/1.1 201 Created", "HTTP/1.1 200 ok", "HTTP/1.0 200 OK", "HTTP/1.1 0200 OK", "HTTP/1.1 200 OK ", "")
	}
	for range g.below(3) {
		l = append(l, g.of("x: y", "x-cart-token: AAAA", "a: b \t c", "b: ", "host: a", "c:d", "X: y", "content-length: 0"))
	}
	if g.below(40) == 0 {
		l = append(l, lines(many(27+g.below(10)))...)
	}
	body := g.of("", "x", "\r\n\r\n", "bread 1 0.20\n", strings.Repeat("b", 4096), strings.Repeat("b", 4097))
	said := "content-length: " + g.of("", "", "", "", "", "", "0") + strconv.Itoa(len(body))
	if g.below(60) == 0 {
		l = filled(l[0], api.MaxHead-len("\r\n"+said)-2+g.below(8), l[1:]...)
	}
	if g.below(20) > 0 {
		l = append(l, said)
	}
	return text(append(l, "", body)...)
}

func TestThrownRequests(t *testing.T) {
	g := &dice{x: 14}
	told := map[int]int{}
	for range 60000 {
		b := g.request()
		for range g.below(3) {
			b = g.turned(b)
		}
		want, status := parsed(b)
		told[status]++
		if status != 0 {
			refused(t, b, status)
		} else {
			parses(t, b, want)
		}
		if t.Failed() {
			t.FailNow()
		}
	}
	for _, status := range []int{0, 400, 413, 414, 431, 501, 505} {
		if told[status] < 100 {
			t.Errorf("%d is told %d times", status, told[status])
		}
	}
}

func TestThrownAnswers(t *testing.T) {
	g := &dice{x: 15}
	told := map[api.Errno]int{}
	for range 60000 {
		b := g.answer()
		for range g.below(3) {
			b = g.turned(b)
		}
		want, e := answered(b)
		told[e]++
		if e != api.OK {
			unread(t, b, e)
		} else {
			reads(t, b, want)
		}
		if t.Failed() {
			t.FailNow()
		}
	}
	for _, e := range []api.Errno{api.OK, api.ErrLine, api.ErrHeader, api.ErrBody, api.ErrLong} {
		if told[e] < 100 {
			t.Errorf("%v is told %d times", e, told[e])
		}
	}
}

// Nothing that is handed in is changed or kept, and no two answers share their memory.
func TestMemory(t *testing.T) {
	fill := func(b []byte) {
		for i := range b[:cap(b)] {
			b[:cap(b)][i] = 0xee
		}
	}
	roomy := func(s string) []byte {
		return append(append(make([]byte, 0, len(s)+40), s...), "\r\n\r\nbehind"...)[:len(s)]
	}

	b := roomy(text("PUT /x HTTP/1.1", "Host: A", "content-length: 3", "", "abc"))
	was := bytes.Clone(b[:cap(b)])
	r, status := http.Parse(b)
	other, _ := http.Parse(b)
	if status != 0 || !bytes.Equal(b[:cap(b)], was) {
		t.Errorf("Parse: %d, of %q", status, b[:cap(b)])
	}
	fill(b)
	r.Headers[0], r.Headers[:cap(r.Headers)][cap(r.Headers)-1] = header("q", "q"), header("q", "q")
	if want := headers(header("host", "A"), header("content-length", "3")); !sameRequest(other, api.Request{Method: "PUT", Path: "/x", Headers: want, Body: "abc"}) {
		t.Errorf("Parse keeps what was handed in: %q", other)
	}

	b = roomy(text(answers, "x: y", "content-length: 2", "", "hi"))
	was = bytes.Clone(b[:cap(b)])
	a, e := http.Read(b)
	again, _ := http.Read(b)
	if e != api.OK || !bytes.Equal(b[:cap(b)], was) {
		t.Errorf("Read: %v, of %q", e, b[:cap(b)])
	}
	fill(b)
	a.Headers[0] = header("q", "q")
	if !sameAnswer(again, api.Answer{Status: 200, Headers: headers(header("x", "y")), Body: "hi"}) {
		t.Errorf("Read keeps what was handed in: %v", again)
	}

	l := append(make([]api.Header, 0, 9), header("host", "a"), header("x", "y"))
	all := slices.Clone(l[:9])
	for range 2 {
		w, e := http.Write(api.Answer{Status: 200, Headers: l, Body: "hi"})
		if e != api.OK || string(w) != text(answers, "host: a", "x: y", "content-length: 2", "", "hi") {
			t.Errorf("Write: %v, %q", e, w)
		}
		p, e := http.Print(api.Request{Method: "GET", Path: "/", Headers: l})
		if e != api.OK || string(p) != asks("x: y") {
			t.Errorf("Print: %v, %q", e, p)
		}
		http.Find(l, "X")
		if !slices.Equal(l[:9], all) {
			t.Errorf("what was handed in is %q", l[:9])
		}
		fill(w)
		fill(p)
	}
}

// However long what is handed in is, it is told what it is.
func TestHugeOnes(t *testing.T) {
	huge := strings.Repeat("x", 1<<24)
	refused(t, huge, 431)
	refused(t, huge+"\r\n\r\n", 431)
	refused(t, asks()+huge, 400)
	refused(t, strings.Repeat("\r\n", 1<<23), 400)
	refused(t, strings.Repeat("a\r\n", 1<<22), 431)
	unread(t, huge, api.ErrLine)
	unread(t, text(answers, huge, "", ""), api.ErrHeader)
	unread(t, text(answers, "", huge), api.ErrBody)
	unread(t, answers+strings.Repeat("\r\na: b", 1<<21)+"\r\n\r\n", api.ErrHeader)
	unprinted(t, api.Request{Method: "GET", Path: "/" + huge, Headers: headers(header("host", "a"))})
	unprinted(t, api.Request{Method: huge, Path: "/", Headers: headers(header("host", huge)), Body: huge})
	unprinted(t, api.Request{Method: "GET", Path: "/", Headers: slices.Repeat(headers(header("x", "y")), 1<<18)})
	unwritten(t, api.Answer{Status: 200, Headers: headers(header(huge, "v"))}, api.ErrHeader)
	unwritten(t, api.Answer{Status: 200, Headers: slices.Repeat(headers(header("x", "y")), 1<<18)}, api.ErrFull)
	unwritten(t, api.Answer{Status: 200, Body: huge}, api.ErrBody)
	if value, ok := http.Find(append(slices.Repeat(headers(header("x", "y")), 1<<18), header(huge, "z")), strings.ToUpper(huge)); value != "z" || !ok {
		t.Errorf("Find: %s, %v", shown(value), ok)
	}
}
