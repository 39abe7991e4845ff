package wal

import (
	"slices"

	"minstrel/api"
)

// write has some acts done on the disk, one behind the other, and then what follows them. When one is refused, nothing more is done, for good.
func (w *Wal) write(then func(), acts ...func() api.Errno) api.Errno {
	for _, act := range acts {
		if act() != api.OK {
			w.lasts = false
			return api.ErrDisk
		}
	}
	then()
	return api.OK
}

// put lays a record behind the segment, and then does what follows.
func (w *Wal) put(c api.Cell, then func()) api.Errno {
	b, e := framed(c)
	if e != api.OK {
		return e
	}
	return w.write(func() {
		w.there = true
		then()
	}, func() api.Errno { return w.disk.Append(w.segment(), b) })
}

// replace lays records beside the segment, lets them be the next one, and then does what follows.
func (w *Wal) replace(records [][]byte, then func()) api.Errno {
	next := w.next()
	return w.write(func() {
		w.number, w.there = next, true
		then()
	}, w.clear, func() api.Errno {
		return w.lay(records)
	}, func() api.Errno {
		return w.disk.Sync(fresh)
	}, func() api.Errno {
		return w.disk.Rename(fresh, segmentName(next))
	}, func() api.Errno {
		return w.remove(next)
	})
}

// segment is the name of the file that records are put behind.
func (w *Wal) segment() string {
	return segmentName(w.number)
}

// sync lets the segment stand fast, if there is one.
func (w *Wal) sync() api.Errno {
	if !w.there {
		return api.OK
	}
	return w.disk.Sync(w.segment())
}

// next is the number of the segment that comes next.
func (w *Wal) next() uint64 {
	if !w.there {
		return w.number
	}
	// Behind the greatest number there is none: that segment is written over, which is done whole or not at all, too.
	return min(w.number+1, greatest)
}

// clear removes the file in which a segment is to be laid, if it is there.
func (w *Wal) clear() api.Errno {
	if !slices.Contains(w.disk.Names(), fresh) {
		return api.OK
	}
	return w.disk.Remove(fresh)
}

// lay puts records one behind the other into the file that is to be a segment.
func (w *Wal) lay(records [][]byte) api.Errno {
	for _, b := range records {
		if e := w.disk.Append(fresh, b); e != api.OK {
			return e
		}
	}
	return api.OK
}

// remove lets the segment go that is ahead of the next one, if there is one.
func (w *Wal) remove(next uint64) api.Errno {
	if next == w.number {
		return api.OK
	}
	return w.disk.Remove(w.segment())
}
