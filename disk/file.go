package disk

import "trolley/api"

// file is what was written of a file; the first so many bytes are synced.
type file struct {
	bytes  []byte
	synced int
}

func (f *file) copied() *file {
	return &file{bytes: append([]byte{}, f.bytes...), synced: f.synced}
}

// canTear takes Keep away instead of adding it up, since a huge one would wrap round.
func (f *file) canTear(t api.Tear) bool {
	loose := len(f.bytes) - f.synced
	return t.Keep >= 0 && len(t.Junk) <= loose-t.Keep
}

// tear writes no byte of t.Junk's own memory, and keeps none: it is copied behind what is kept.
func (f *file) tear(t api.Tear) {
	f.bytes = append(f.bytes[:f.synced+t.Keep], t.Junk...)
	f.synced = len(f.bytes)
}
