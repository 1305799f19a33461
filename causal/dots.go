package causal

import (
	"cmp"
	"slices"

	"trolley/api"
)

// may tells whether a dot may be, and so whether a mark may: a mark is told by its last dot.
func may(d api.Dot) bool {
	return 0 <= d.Node && d.Node < api.MaxNodes &&
		1 <= d.Life && d.Life <= api.MaxLife &&
		1 <= d.Count && d.Count <= api.MaxCount
}

func ofDot(d api.Dot) api.Actor { return api.Actor{Node: d.Node, Life: d.Life} }

func ofMark(m api.Mark) api.Actor { return ofDot(api.Dot(m)) }

func compareActors(a, b api.Actor) int {
	if a.Node != b.Node {
		return cmp.Compare(a.Node, b.Node)
	}
	return cmp.Compare(a.Life, b.Life)
}

func compareDots(a, b api.Dot) int {
	return cmp.Or(compareActors(ofDot(a), ofDot(b)), cmp.Compare(a.Count, b.Count))
}

func tooLong(c api.Context) bool {
	return len(c.Marks) > api.MaxMarks || len(c.Cloud) > api.MaxCloud
}

// upTo is the count up to which marks that are in order have an actor's dots.
func upTo(marks []api.Mark, a api.Actor) int {
	i, found := slices.BinarySearchFunc(marks, a, func(m api.Mark, a api.Actor) int {
		return compareActors(ofMark(m), a)
	})
	if !found {
		return 0
	}
	return marks[i].Count
}

// span is an actor's dots from a count to a last one. Marks and dots are both spans, and can be gone through as one list.
type span struct {
	from int
	last api.Dot
}

func (s span) wrong() bool { return !may(s.last) }

func compareSpans(a, b span) int {
	return cmp.Or(compareActors(ofDot(a.last), ofDot(b.last)), cmp.Compare(a.from, b.from))
}

// gather makes a context of spans, of any lengths. It goes through them in order: a gap above an actor's mark stays one, since no span behind it begins further down.
func gather(spans []span) api.Context {
	slices.SortFunc(spans, compareSpans)
	var c api.Context
	for _, s := range spans {
		top := upTo(c.Marks, ofDot(s.last))
		switch {
		case s.last.Count <= top:
		case s.from > top+1:
			c.Cloud = append(c.Cloud, s.last)
		case top == 0:
			c.Marks = append(c.Marks, api.Mark(s.last))
		default:
			c.Marks[len(c.Marks)-1].Count = s.last.Count
		}
	}
	c.Cloud = slices.Compact(c.Cloud)
	return c
}
