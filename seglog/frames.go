package seglog

import (
	"trolley/api"
	"trolley/wire"
)

// firstPiece is how many bytes of a segment are looked at first for a frame.
const firstPiece = 256

// frame is a record's frame. One without a payload is no record's: it says that what stands ahead does not count.
func frame(rec []byte) ([]byte, api.Errno) {
	if len(rec) == 0 {
		return nil, api.ErrArg
	}
	return wire.Frame(rec)
}

// frames are those of records that take the place of all ahead of them.
func frames(recs [][]byte) ([]byte, api.Errno) {
	b, e := wire.Frame(nil)
	for _, rec := range recs {
		var f []byte
		if f, e = frame(rec); e != api.OK {
			return nil, e
		}
		b = append(b, f...)
	}
	return b, e
}

// unframe is the payload of the frame at the beginning of bytes, and how many bytes the frame has. Since wire copies what stands behind a frame, it is shown a short piece, and a longer one only if there is no frame in that: a segment of many frames would take very long else.
func unframe(b []byte) ([]byte, int, api.Errno) {
	for most := firstPiece; ; most *= 2 {
		piece := b[:min(most, len(b))]
		payload, rest, e := wire.Unframe(piece)
		if e == api.OK || len(piece) == len(b) {
			return payload, len(piece) - len(rest), e
		}
	}
}
