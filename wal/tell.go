package wal

import (
	"slices"

	"minstrel/api"
	"minstrel/snap"
)

// Term is the term.
func (w *Wal) Term() uint64 { return w.term }

// Vote is the vote.
func (w *Wal) Vote() int { return w.vote }

// Snap is the snapshot, if there is one.
func (w *Wal) Snap() (api.Snap, bool) {
	if w.saved == "" {
		return api.Snap{}, false
	}
	// It is read from its bytes each time, so that what is handed out is always new.
	s, e := snap.Load([]byte(w.saved))
	return s, e == api.OK
}

// Base is the snapshot's number and term.
func (w *Wal) Base() (uint64, uint64) { return w.index, w.from }

// Last is the last entry's number, or the base's.
func (w *Wal) Last() uint64 { return w.last() }

// Entry is that of a number, if there is one.
func (w *Wal) Entry(i uint64) (api.Entry, bool) {
	e, is := w.entry(i)
	e.Members = slices.Clone(e.Members)
	return e, is
}
