package http

import (
	"bytes"
	"strconv"
	"strings"

	"trolley/api"
)

const unsaid = -1 // the length of a body of which no header tells it

func statusLine(status int) string {
	return version + " " + strconv.Itoa(status) + " " + Reason(status)
}

// answer gives up with the first of the errors, in the order in which its steps are taken.
func answer(b []byte) api.Answer {
	head, body, ended := bytes.Cut(b, []byte(end))
	need(ended, fault(api.ErrLine))
	// However many lines there are, one more than may be is enough to tell.
	lines := strings.SplitN(string(head), newLine, 1+api.MaxHeaders+1)
	status := statusOf(lines[0])
	l, length := writtenHeaders(lines[1:])
	need(len(body) == length && length <= api.MaxBody, fault(api.ErrBody))
	need(len(head) <= api.MaxHead, fault(api.ErrLong))
	return api.Answer{Status: status, Headers: l, Body: string(body)}
}

// statusOf is the status whose line a text is.
func statusOf(line string) int {
	parts := strings.SplitN(line, " ", 3)
	need(len(parts) == 3, fault(api.ErrLine))
	status, e := strconv.Atoi(parts[1])
	need(e == nil && Reason(status) != "" && statusLine(status) == line, fault(api.ErrLine))
	return status
}

// writtenHeaders is the headers, and the body's length, which the last one tells.
func writtenHeaders(lines []string) ([]api.Header, int) {
	need(len(lines) <= api.MaxHeaders, fault(api.ErrHeader))
	var l []api.Header
	length := unsaid
	for i, line := range lines {
		name, value, parted := strings.Cut(line, colon)
		h := api.Header{Name: name, Value: value}
		need(parted && isWritten(h), fault(api.ErrHeader))
		if name != contentLength {
			l = append(l, h)
			continue
		}
		last := i == len(lines)-1
		need(last && areDigits(value) && strconv.Itoa(number(value)) == value, fault(api.ErrHeader))
		length = number(value)
	}
	return l, length
}
