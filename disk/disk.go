// Package disk is layer 2: see ../../shared/doc/02-disk.md.
package disk

import (
	"maps"
	"slices"

	"trolley/api"
	"trolley/names"
)

// Disk is a stand-in for a disk: files of bytes that were written, some of them synced.
type Disk struct {
	room  int
	files map[string]*file // nil in a disk that no call made
}

// New is an empty one with room for so many bytes.
func New(room int) (*Disk, api.Errno) {
	if room < 0 || room > api.MaxRoom {
		return nil, api.ErrArg
	}
	return &Disk{room: room, files: map[string]*file{}}, api.OK
}

func (d *Disk) made() bool { return d != nil && d.files != nil }

// check finds the errors that come ahead of all others.
func (d *Disk) check(files ...string) api.Errno {
	if !d.made() {
		return api.ErrNil
	}
	for _, n := range files {
		if !names.Can(n) {
			return api.ErrName
		}
	}
	return api.OK
}

func (d *Disk) find(name string) (*file, api.Errno) {
	if e := d.check(name); e != api.OK {
		return nil, e
	}
	f, there := d.files[name]
	if !there {
		return nil, api.ErrFile
	}
	return f, api.OK
}

// Append writes bytes behind a file's (a new one, if there is none); Sync makes all that was written of it stay.
func (d *Disk) Append(name string, b []byte) api.Errno {
	f, e := d.find(name)
	if e == api.ErrFile && len(d.files) < api.MaxFiles {
		f, e = &file{}, api.OK
	} else if e == api.ErrFile {
		e = api.ErrFull
	}
	if e != api.OK {
		return e
	}
	if len(b) > d.room-d.Used() {
		return api.ErrFull
	}
	f.bytes = append(f.bytes, b...)
	d.files[name] = f
	return api.OK
}

func (d *Disk) Sync(name string) api.Errno {
	f, e := d.find(name)
	if e != api.OK {
		return e
	}
	f.synced = len(f.bytes)
	return api.OK
}

// Read is a file's bytes, Size how many were written, and how many of them are synced.
func (d *Disk) Read(name string) ([]byte, api.Errno) {
	f, e := d.find(name)
	if e != api.OK {
		return nil, e
	}
	return f.copied().bytes, api.OK
}

func (d *Disk) Size(name string) (written, synced int, e api.Errno) {
	f, e := d.find(name)
	if e != api.OK {
		return 0, 0, e
	}
	return len(f.bytes), f.synced, api.OK
}

// Rename gives a file another name (in the place of one that has it), Remove takes it away.
func (d *Disk) Rename(from, to string) api.Errno {
	if e := d.check(from, to); e != api.OK {
		return e
	}
	f, e := d.find(from)
	if e != api.OK {
		return e
	}
	delete(d.files, from) // first, so that a file keeps the name that it is given once more
	d.files[to] = f
	return api.OK
}

func (d *Disk) Remove(name string) api.Errno {
	if _, e := d.find(name); e != api.OK {
		return e
	}
	delete(d.files, name)
	return api.OK
}

// Files is all names, Used how many bytes all files have, Room how many they may have.
func (d *Disk) Files() []string {
	if !d.made() {
		return nil
	}
	return slices.Sorted(maps.Keys(d.files))
}

func (d *Disk) Used() int {
	if !d.made() {
		return 0
	}
	n := 0
	for _, f := range d.files {
		n += len(f.bytes)
	}
	return n
}

func (d *Disk) Room() int {
	if !d.made() {
		return 0
	}
	return d.room
}

// Crash loses what is not synced, but for tears; Wipe loses all.
func (d *Disk) Crash(tears []api.Tear) api.Errno {
	torn, e := d.checkTears(tears)
	if e != api.OK {
		return e
	}
	for name, f := range d.files {
		f.tear(torn[name]) // one that is not torn has a tear that keeps nothing
	}
	return api.OK
}

// checkTears goes through all tears ahead of the first change, since a crash with a wrong one is none.
func (d *Disk) checkTears(tears []api.Tear) (map[string]api.Tear, api.Errno) {
	if e := d.check(); e != api.OK {
		return nil, e
	}
	torn := map[string]api.Tear{}
	for _, t := range tears {
		f, e := d.find(t.Name)
		if e != api.OK {
			return nil, e
		}
		if _, twice := torn[t.Name]; twice || !f.canTear(t) {
			return nil, api.ErrTear
		}
		torn[t.Name] = t
	}
	return torn, api.OK
}

func (d *Disk) Wipe() api.Errno {
	if e := d.check(); e != api.OK {
		return e
	}
	clear(d.files)
	return api.OK
}

// Copy is another disk with the same files.
func (d *Disk) Copy() *Disk {
	if !d.made() {
		return nil
	}
	c := &Disk{room: d.room, files: map[string]*file{}}
	for name, f := range d.files {
		c.files[name] = f.copied()
	}
	return c
}
