package kvstore

import (
	"cmp"

	"trolley/api"
	"trolley/causal"
	"trolley/codes"
	"trolley/ident"
	"trolley/names"
	"trolley/ormap"
	"trolley/wire"
)

// Kinds of records, as they stand in the log.
const (
	startsRecord = 1
	cartRecord   = 2
	dropRecord   = 3
	hintRecord   = 4
	unhintRecord = 5
	retireRecord = 6
)

// record is a record of the log; its kind tells which of the other fields count.
type record struct {
	kind   int
	starts int
	owner  int
	key    string
	cart   api.Cart
	mark   api.Mark
}

// bytes leans on a record that may be.
func (r record) bytes() []byte {
	b := []byte{byte(r.kind)}
	switch r.kind {
	case startsRecord:
		return codes.Numbers(b, r.starts)
	case hintRecord, unhintRecord:
		b = codes.Numbers(b, r.owner)
		fallthrough
	default:
		b = codes.Text(b, r.key)
	}
	switch r.kind {
	case cartRecord:
		code, _ := ormap.Encode(r.cart)
		return append(b, code...)
	case retireRecord:
		return codes.Dot(b, api.Dot(r.mark))
	}
	return b
}

// read is the record of some bytes; ErrStore, if they are none.
func read(b []byte) (record, api.Errno) {
	reader := wire.Over(b)
	kind, e := reader.Byte()
	s, r := codes.From(reader), record{kind: kind}
	switch kind {
	case startsRecord:
		r.starts = s.Number()
	case hintRecord, unhintRecord:
		r.owner = s.Number()
		fallthrough
	default:
		r.key = s.Text(api.MaxName)
	}
	switch kind {
	case cartRecord:
		r.cart, e = ormap.Decode(b[reader.At():]) // which looks itself whether something is behind
	case retireRecord:
		r.mark = api.Mark(s.Dot())
		fallthrough
	default:
		e = cmp.Or(e, reader.End())
	}
	if cmp.Or(s.Why(), e) != api.OK || !r.may() {
		return record{}, api.ErrStore
	}
	return r, api.OK
}

// may tells whether there is such a kind, and whether what a record of it names may be; of its cart take tells.
func (r record) may() bool {
	switch r.kind {
	case startsRecord:
		return true
	case cartRecord, dropRecord:
	case hintRecord, unhintRecord:
		if !isNode(r.owner) {
			return false
		}
	case retireRecord:
		if !mayMark(r.mark) {
			return false
		}
	default:
		return false
	}
	return names.Can(r.key)
}

// isNode asks ident by way of the node's name.
func isNode(node int) bool {
	_, is := ident.Name(node)
	return is
}

// mayMark asks causal by way of the set of the mark's dots alone.
func mayMark(m api.Mark) bool {
	_, e := causal.Normal([]api.Mark{m}, nil)
	return e == api.OK
}
