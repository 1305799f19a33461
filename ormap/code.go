package ormap

import (
	"trolley/api"
	"trolley/causal"
	"trolley/codes"
	"trolley/wire"
)

// Encode is a cart's bytes, Decode the cart of some.
func Encode(c api.Cart) ([]byte, api.Errno) {
	if e := Can(c); e != api.OK {
		return nil, e
	}
	b := codes.Numbers(nil, len(c.Entries))
	for _, e := range c.Entries {
		b = codes.Text(b, e.Item)
		b = codes.Dot(b, e.Dot)
		b = codes.Numbers(b, e.Qty)
		b = codes.Word(b, e.Price)
	}
	return causal.Encode(b, c.Ctx)
}

func Decode(b []byte) (api.Cart, api.Errno) {
	r := wire.Over(b)
	c, e := readCart(r)
	if e == api.OK {
		e = r.End()
	}
	if e == api.OK {
		e = Can(c)
	}
	if e != api.OK {
		return api.Cart{}, e
	}
	return c, api.OK
}

func readCart(r *wire.Reader) (api.Cart, api.Errno) {
	var c api.Cart
	s := codes.From(r)
	for range s.Length(api.MaxLive) {
		c.Entries = append(c.Entries, readEntry(s))
	}
	e := s.Why()
	if e == api.OK {
		c.Ctx, e = causal.Decode(r)
	}
	return c, e
}

// readEntry reads field by field, in the order in which they are written.
func readEntry(s *codes.Source) api.Entry {
	var e api.Entry
	e.Item = s.Text(api.MaxName)
	e.Dot = s.Dot()
	e.Qty = s.Number()
	e.Price = s.Word()
	return e
}
