package seglog

import (
	"slices"
	"strconv"
	"strings"

	"trolley/api"
)

const (
	prefix       = "log."
	fresh        = "log.new" // where a segment is written before it gets its name
	firstSegment = 1
	lastSegment  = 999999999
)

// device is what is done on a disk. It is an interface so that who tests a log can stop it between any two of these calls.
type device interface {
	Append(name string, b []byte) api.Errno
	Sync(name string) api.Errno
	Read(name string) ([]byte, api.Errno)
	Size(name string) (written, synced int, e api.Errno)
	Rename(from, to string) api.Errno
	Remove(name string) api.Errno
	Files() []string
}

// folder is the segments among a disk's files: what a log and its recovery share. It keeps none of what the files tell.
type folder struct{ disk device }

// Name is a segment's file.
func Name(segment int) string {
	if segment < firstSegment || segment > lastSegment {
		return ""
	}
	return prefix + strconv.Itoa(segment)
}

// number is a file's segment, or 0. It holds the name against the one that Name tells, so that a number in another form is none.
func number(name string) int {
	n, _ := strconv.Atoi(strings.TrimPrefix(name, prefix))
	if Name(n) != name {
		return 0
	}
	return n
}

// segments are the numbers of all of them, rising; last is the greatest one, or 0.
func (f folder) segments() []int {
	var all []int
	for _, name := range f.disk.Files() {
		if n := number(name); n > 0 {
			all = append(all, n)
		}
	}
	slices.Sort(all)
	return all
}

func (f folder) last() int {
	return slices.Max(append(f.segments(), 0))
}

// size is how many bytes a segment has: 0, if there is none.
func (f folder) size(segment int) int {
	written, _, _ := f.disk.Size(Name(segment))
	return written
}

// write makes bytes stay in the file that is to become a segment.
func (f folder) write(b []byte) api.Errno {
	if e := f.disk.Append(fresh, b); e != api.OK {
		return e
	}
	return f.disk.Sync(fresh)
}

// remove takes segments away, one behind another.
func (f folder) remove(segments ...int) api.Errno {
	for _, n := range segments {
		if e := f.disk.Remove(Name(n)); e != api.OK {
			return e
		}
	}
	return api.OK
}
