package wal

import (
	"minstrel/api"
	"minstrel/code"
	"minstrel/frame"
	"minstrel/snap"
)

// The kinds of records.
const (
	voteRecord  = iota // term and vote
	entryRecord        // an entry's cell
	cutRecord          // from which number on entries are cut
	snapRecord         // a snapshot's bytes
)

// record is the cell of a record of a kind. The parts are the wal's own, so that they need not be copied.
func record(kind uint64, parts ...api.Cell) api.Cell {
	return api.Cell{K: api.CellList, L: append([]api.Cell{code.Number(kind)}, parts...)}
}

func voteCell(term uint64, vote int) api.Cell {
	return record(voteRecord, code.Number(term), code.Number(uint64(vote)))
}

func entryCell(entry api.Cell) api.Cell {
	return record(entryRecord, entry)
}

func cutCell(from uint64) api.Cell {
	return record(cutRecord, code.Number(from))
}

func snapCell(saved string) api.Cell {
	return record(snapRecord, code.Text(saved))
}

// framed is a record's bytes. Of a snapshot there may be too many, though those of the snapshot alone are not.
func framed(c api.Cell) ([]byte, api.Errno) {
	b, e := code.Encode(c)
	if e != api.OK {
		return nil, e
	}
	return frame.Frame(b)
}

// records are those that a segment begins with that has a snapshot.
func (s *state) records() ([][]byte, api.Errno) {
	cells := []api.Cell{snapCell(s.saved), voteCell(s.term, s.vote)}
	for _, e := range s.entries {
		c, _ := snap.EntryCell(e)
		cells = append(cells, entryCell(c))
	}
	records := make([][]byte, len(cells))
	for i, c := range cells {
		b, e := framed(c)
		if e != api.OK {
			return nil, e
		}
		records[i] = b
	}
	return records, api.OK
}

// read does what the records say that bytes begin with, and answers how many bytes those are that can be done.
func (s *state) read(b []byte) int {
	at := 0
	for {
		part, n, e := frame.First(b[at:])
		if e != api.OK {
			return at
		}
		c, e := code.Decode(part)
		if e != api.OK || !s.redo(c, at == 0) {
			return at
		}
		at += n
	}
}

// redo does what a record says, if it is one and that can be done where it stands.
func (s *state) redo(c api.Cell, first bool) bool {
	if c.K != api.CellList || len(c.L) == 0 || c.L[0].K != api.CellNumber {
		return false
	}
	kind, parts := c.L[0].N, c.L[1:]
	switch {
	case kind == voteRecord && len(parts) == 2:
		return s.redoVote(parts[0], parts[1])
	case kind == entryRecord && len(parts) == 1:
		return s.redoEntry(parts[0])
	case kind == cutRecord && len(parts) == 1:
		return s.redoCut(parts[0])
	case kind == snapRecord && len(parts) == 1 && first:
		return s.redoSnap(parts[0])
	}
	return false
}

func (s *state) redoVote(term, vote api.Cell) bool {
	// The vote stays unsigned till it is known to be small: an int may have 32 bits only.
	if term.K != api.CellNumber || vote.K != api.CellNumber || vote.N > api.MaxMembers {
		return false
	}
	s.elect(term.N, int(vote.N))
	return true
}

func (s *state) redoEntry(c api.Cell) bool {
	e, wrong := snap.FromEntry(c)
	if wrong != api.OK || s.full() {
		return false
	}
	s.add(e)
	return true
}

func (s *state) redoCut(from api.Cell) bool {
	if from.K != api.CellNumber || !s.cuts(from.N) {
		return false
	}
	s.cut(from.N)
	return true
}

func (s *state) redoSnap(saved api.Cell) bool {
	if saved.K != api.CellText {
		return false
	}
	b, wrong := snap.Load([]byte(saved.S))
	if wrong != api.OK {
		return false
	}
	s.base(b.Index, b.Term, saved.S)
	return true
}
