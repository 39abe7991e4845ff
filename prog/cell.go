package prog

import (
	"minstrel/api"
	"minstrel/code"
)

// How many cells the list of a function, of an up, of an order has.
const (
	functionParts = 6
	upParts       = 2
	orderParts    = 4
)

// ToCell is p as a tree of data.
func ToCell(p api.Proto) api.Cell {
	return api.Cell{K: api.CellList, L: []api.Cell{
		numberCell(p.Params),
		numberCell(p.Regs),
		listCell(p.Ups, upCell),
		listCell(p.Code, orderCell),
		listCell(p.Consts, constantCell),
		listCell(p.Protos, ToCell),
	}}
}

// listCell is a list of what one tells of each. It is made here, not by code.List, which would copy each function as often as it lies in others.
func listCell[T any](l []T, one func(T) api.Cell) api.Cell {
	cells := make([]api.Cell, len(l))
	for i, x := range l {
		cells[i] = one(x)
	}
	return api.Cell{K: api.CellList, L: cells}
}

func numberCell(n int) api.Cell {
	return code.Number(uint64(n))
}

func upCell(u api.Up) api.Cell {
	own := 0
	if u.Own {
		own = 1
	}
	return listCell([]int{own, u.At}, numberCell)
}

func orderCell(in api.Instr) api.Cell {
	return listCell([]int{in.Op, in.A, in.B, in.C}, numberCell)
}

func constantCell(v api.Value) api.Cell {
	kind := numberCell(v.K)
	switch v.K {
	case api.Number:
		return code.List(kind, code.Number(uint64(v.N)))
	case api.Text:
		return code.List(kind, code.Text(v.S))
	}
	return code.List(kind)
}
