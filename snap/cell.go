package snap

import (
	"minstrel/api"
	"minstrel/code"
)

// membersCell is the list of members.
func membersCell(l []int) api.Cell {
	cells := make([]api.Cell, len(l))
	for i, n := range l {
		cells[i] = code.Number(uint64(n))
	}
	return api.Cell{K: api.CellList, L: cells}
}

// readMembers are the members of which a cell is the list, if they can be members.
func readMembers(c api.Cell) ([]int, bool) {
	if c.K != api.CellList {
		return nil, false
	}
	l := make([]int, len(c.L))
	for i, part := range c.L {
		// The number stays unsigned till it is known to be small: an int may have 32 bits only.
		if part.K != api.CellNumber || part.N > api.MaxMembers {
			return nil, false
		}
		l[i] = int(part.N)
	}
	if !Members(l) {
		return nil, false
	}
	return l, true
}

// twoNumbers are the two numbers with which a list begins, and what is behind them.
func twoNumbers(c api.Cell) (first, second uint64, behind []api.Cell, is bool) {
	if c.K != api.CellList || len(c.L) < 2 || c.L[0].K != api.CellNumber || c.L[1].K != api.CellNumber {
		return 0, 0, nil, false
	}
	return c.L[0].N, c.L[1].N, c.L[2:], true
}
