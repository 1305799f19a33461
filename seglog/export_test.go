package seglog

import "trolley/api"

// On is a log on anything that does what a disk does, Recover what Open does there.
func On(d device) *Log { return &Log{folder{disk: d}} }

func Recover(d device) ([][]byte, api.Errno) {
	r := recovery{folder: folder{disk: d}}
	e := r.run()
	return r.records, e
}
