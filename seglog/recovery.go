package seglog

import (
	"slices"

	"trolley/api"
)

// recovery reads the records of a folder, and mends it.
type recovery struct {
	folder
	records [][]byte
}

func (r *recovery) run() api.Errno {
	if e := r.disk.Remove(fresh); e != api.OK && e != api.ErrFile {
		return e
	}
	if e := r.read(); e != api.OK {
		return e
	}
	for _, n := range r.segments() {
		if e := r.disk.Sync(Name(n)); e != api.OK {
			return e
		}
	}
	return api.OK
}

// read takes all frames, up to the first place where none stands: there the log is cut.
func (r *recovery) read() api.Errno {
	all := r.segments()
	var torn []int // the segment with that place, and those behind it
	var whole []byte
segments:
	for i, n := range all {
		b, e := r.disk.Read(Name(n))
		if e != api.OK {
			return e
		}
		for at := 0; at < len(b); {
			payload, size, e := unframe(b[at:])
			if e != api.OK {
				torn, whole = all[i:], b[:at]
				break segments
			}
			r.take(payload)
			at += size
		}
	}
	if len(torn) == 0 {
		return api.OK
	}
	return r.cut(torn, whole)
}

func (r *recovery) take(payload []byte) {
	if len(payload) == 0 {
		r.records = nil
		return
	}
	r.records = append(r.records, payload)
}

// cut leaves of some segments the first one alone, with these bytes, or not even that.
func (r *recovery) cut(segments []int, whole []byte) api.Errno {
	first, behind := segments[0], segments[1:]
	if e := r.shorten(first, whole); e != api.OK {
		return e
	}
	slices.Reverse(behind)
	return r.remove(behind...)
}

func (r *recovery) shorten(segment int, whole []byte) api.Errno {
	if len(whole) == 0 {
		return r.remove(segment)
	}
	if e := r.write(whole); e != api.OK {
		return e
	}
	return r.disk.Rename(fresh, Name(segment))
}
