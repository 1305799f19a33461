package causal

import (
	"slices"

	"trolley/api"
	"trolley/codes"
	"trolley/wire"
)

// Encode puts a context's bytes behind some, Decode reads them.
func Encode(b []byte, c api.Context) ([]byte, api.Errno) {
	if !Can(c) {
		return nil, api.ErrDots
	}
	code := codes.Numbers(nil, len(c.Marks))
	for _, m := range c.Marks {
		code = codes.Dot(code, api.Dot(m))
	}
	code = codes.Numbers(code, len(c.Cloud))
	for _, d := range c.Cloud {
		code = codes.Dot(code, d)
	}
	return slices.Concat(b, code), api.OK
}

// Decode reads with a copy of the reader, which goes on by itself, so that r has not moved where there is an error.
func Decode(r *wire.Reader) (api.Context, api.Errno) {
	if r == nil {
		return api.Context{}, api.ErrNil
	}
	ahead := *r
	c, why := read(codes.From(&ahead))
	if why == api.OK && !Can(c) {
		why = api.ErrDots
	}
	if why != api.OK {
		return api.Context{}, why
	}
	*r = ahead
	return c, api.OK
}

func read(s *codes.Source) (api.Context, api.Errno) {
	var c api.Context
	for range s.Length(api.MaxMarks) {
		c.Marks = append(c.Marks, api.Mark(s.Dot()))
	}
	for range s.Length(api.MaxCloud) {
		c.Cloud = append(c.Cloud, s.Dot())
	}
	return c, s.Why()
}
