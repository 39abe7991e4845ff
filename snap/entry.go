package snap

import (
	"minstrel/api"
	"minstrel/code"
)

// EntryCell is an entry as a cell.
func EntryCell(e api.Entry) (api.Cell, api.Errno) {
	term, kind := code.Number(e.Term), code.Number(uint64(e.Kind))
	switch e.Kind {
	case api.EntryNone:
		return code.List(term, kind), api.OK
	case api.EntryCommand:
		if len(e.Data) > api.MaxEntry {
			return api.Cell{}, api.ErrLong
		}
		return code.List(term, kind, code.Text(e.Data)), api.OK
	case api.EntryMembers:
		if !Members(e.Members) {
			return api.Cell{}, api.ErrArg
		}
		return code.List(term, kind, membersCell(e.Members)), api.OK
	}
	return api.Cell{}, api.ErrArg
}

// FromEntry is the entry of which EntryCell tells c.
func FromEntry(c api.Cell) (api.Entry, api.Errno) {
	term, kind, behind, is := twoNumbers(c)
	switch {
	case !is:
		return api.Entry{}, api.ErrForm
	case kind == api.EntryNone && len(behind) == 0:
		return api.Entry{Term: term, Kind: api.EntryNone}, api.OK
	case kind == api.EntryCommand && len(behind) == 1 && isData(behind[0]):
		return api.Entry{Term: term, Kind: api.EntryCommand, Data: behind[0].S}, api.OK
	case kind == api.EntryMembers && len(behind) == 1:
		if members, is := readMembers(behind[0]); is {
			return api.Entry{Term: term, Kind: api.EntryMembers, Members: members}, api.OK
		}
	}
	return api.Entry{}, api.ErrForm
}

// isData tells whether c is a command's data.
func isData(c api.Cell) bool {
	return c.K == api.CellText && len(c.S) <= api.MaxEntry
}
