package http

import (
	"bytes"
	"strconv"
	"strings"

	"trolley/api"
)

const (
	maxMethod = 16
	maxTarget = 1024
)

// fault is what a parser gives up with by a panic, so that no step has to hand it on: of a request the status that refuses it, of an answer its error's number.
type fault int

// need gives up, unless something holds.
func need(holds bool, why fault) {
	if !holds {
		panic(why)
	}
}

// attempt is where the faces catch a step that gives up; another panic is no giving up, and goes on.
func attempt(step func()) (why fault) {
	defer func() {
		switch x := recover().(type) {
		case nil:
		case fault:
			why = x
		default:
			panic(x)
		}
	}()
	step()
	return 0
}

// request gives up with the first of the statuses, in the order in which its steps are taken.
func request(b []byte) api.Request {
	head, body, ended := bytes.Cut(b, []byte(end))
	need(len(head) <= api.MaxHead, statusHead) // without an end the head is all of b
	need(ended, api.StatusBad)
	lines := strings.Split(string(head), newLine)
	for _, line := range lines {
		need(!strings.ContainsAny(line, newLine), api.StatusBad)
	}
	r := firstLine(lines[0])
	r.Headers = headers(lines[1:])
	need(len(body) == bodyLength(r.Headers), api.StatusBad)
	r.Body = string(body)
	return r
}

func firstLine(line string) api.Request {
	parts := strings.Split(line, " ")
	need(len(parts) == 3, api.StatusBad)
	method, target, spoken := parts[0], parts[1], parts[2]
	need(isMethod(method) && isTarget(target) && isVersion(spoken), api.StatusBad)
	need(spoken == version, statusVersion)
	need(isBuilt(method), statusNotBuilt)
	need(len(target) <= maxTarget, statusTarget)
	return api.Request{Method: method, Path: target}
}

func isMethod(s string) bool {
	return len(s) >= 1 && len(s) <= maxMethod && all(s, isCapital)
}

func isTarget(s string) bool { return strings.HasPrefix(s, "/") && all(s, isSeen) }

func isVersion(s string) bool {
	numbers, named := strings.CutPrefix(s, "HTTP/")
	return named && len(numbers) == 3 && isDigit(numbers[0]) && numbers[1] == '.' && isDigit(numbers[2])
}

func isBuilt(method string) bool {
	switch method {
	case "GET", "PUT", "POST", "DELETE":
		return true
	}
	return false
}

func headers(lines []string) []api.Header {
	var l []api.Header
	for i, line := range lines {
		need(i < api.MaxHeaders, statusHead)
		name, rest, parted := strings.Cut(line, ":")
		value := trimmed(rest)
		need(parted && isToken(name) && isValue(value), api.StatusBad)
		l = append(l, api.Header{Name: small(name), Value: value})
	}
	return l
}

// bodyLength is what headers say of the body; whether they may stand together is told here too.
func bodyLength(l []api.Header) int {
	need(len(valuesOf(l, "transfer-encoding")) == 0, statusNotBuilt)
	hosts := valuesOf(l, "host")
	need(len(hosts) == 1 && hosts[0] != "", api.StatusBad)
	lengths := valuesOf(l, contentLength)
	if len(lengths) == 0 {
		return 0
	}
	need(len(lengths) == 1 && areDigits(lengths[0]), api.StatusBad)
	length := number(lengths[0])
	need(length <= api.MaxBody, api.StatusLarge)
	return length
}

func valuesOf(l []api.Header, name string) []string {
	var values []string
	for _, h := range l {
		if h.Name == name {
			values = append(values, h.Value)
		}
	}
	return values
}

// number is that of digits, which are so few that it fits.
func number(digits string) int {
	n, _ := strconv.Atoi(digits)
	return n
}
