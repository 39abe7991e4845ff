package wal

import (
	"slices"

	"minstrel/api"
)

// state is what a node must not forget.
type state struct {
	term        uint64
	vote        int
	saved       string // the snapshot's bytes; none without one
	index, from uint64 // the base: its number and its term
	entries     []api.Entry
}

// last is the last entry's number, or the base's.
func (s *state) last() uint64 {
	return s.index + uint64(len(s.entries))
}

// entry is that of a number, as it is kept.
func (s *state) entry(i uint64) (api.Entry, bool) {
	if i <= s.index || i > s.last() {
		return api.Entry{}, false
	}
	return s.entries[s.place(i)], true
}

// place is where the entry of a number above the base's lies, or would lie, if it came next.
func (s *state) place(i uint64) int {
	return int(i - s.index - 1)
}

// full is whether there are as many entries as there may be.
func (s *state) full() bool {
	return len(s.entries) >= api.MaxLog
}

// cuts is whether entries can be cut from a number on.
func (s *state) cuts(from uint64) bool {
	return from > s.index && from <= s.last()+1
}

// elect lets term and vote be these.
func (s *state) elect(term uint64, vote int) {
	s.term, s.vote = term, vote
}

// add lays an entry behind all others.
func (s *state) add(e api.Entry) {
	s.entries = append(s.entries, e)
}

// cut lets the entries from a number on go.
func (s *state) cut(from uint64) {
	i := s.place(from)
	s.entries = slices.Delete(s.entries, i, len(s.entries))
}

// base lets the snapshot be one of that number and term.
func (s *state) base(index, term uint64, saved string) {
	s.index, s.from, s.saved = index, term, saved
}

// behind is the state with another snapshot: entries behind it stay, if it stands for what they stand behind.
func (s *state) behind(index, term uint64, saved string) state {
	next := state{term: s.term, vote: s.vote}
	next.base(index, term, saved)
	if e, is := s.entry(index); is && e.Term == term {
		next.entries = slices.Clone(s.entries[s.place(index)+1:])
	}
	return next
}
