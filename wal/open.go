package wal

import (
	"strings"

	"minstrel/api"
	"minstrel/disk"
)

// Open is what a disk has, as far as it can be read.
func Open(d *disk.Disk) (*Wal, api.Errno) {
	if d == nil {
		return nil, api.ErrArg
	}
	w := &Wal{disk: d, number: 1, lasts: true}
	if n, there := newest(d.Names()); there {
		w.number, w.there = n, true
	}
	if w.write(func() {}, w.recall, w.sync, w.clean) != api.OK {
		return nil, api.ErrDisk
	}
	return w, api.OK
}

// recall reads the segment, if there is one, and cuts off what of it can't be read.
func (w *Wal) recall() api.Errno {
	if !w.there {
		return api.OK
	}
	b, _ := w.disk.Read(w.segment())
	return w.disk.Truncate(w.segment(), w.read(b))
}

// clean removes what is left of other segments, and of some that never came to be one.
func (w *Wal) clean() api.Errno {
	for _, name := range w.disk.Names() {
		if name == w.segment() || name != fresh && !strings.HasPrefix(name, prefix) {
			continue
		}
		if e := w.disk.Remove(name); e != api.OK {
			return e
		}
	}
	return api.OK
}
