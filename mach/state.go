package mach

import (
	"minstrel/api"
	"minstrel/code"
)

// State is all that a machine has, in its one form.
func (m *Machine) State() api.Cell {
	return list(number(m.limit), number(m.fuel), code.Number(m.seed), cells(m.scripts, scriptCell), cells(m.objects, objectCell))
}

// list is that of cells which are new: code's own would copy them at each list that they lie in.
func list(l ...api.Cell) api.Cell {
	return api.Cell{K: api.CellList, L: l}
}

func number(n int) api.Cell { return code.Number(uint64(n)) }

// cells is the list of what some things are as cells.
func cells[T any](things []T, cell func(T) api.Cell) api.Cell {
	l := make([]api.Cell, len(things))
	for i, t := range things {
		l[i] = cell(t)
	}
	return list(l...)
}

func scriptCell(s script) api.Cell { return code.Text(s.text) }

func objectCell(o api.Object) api.Cell {
	kind, slots := number(o.K), cells(o.Slots, valueCell)
	switch o.K {
	case api.Table:
		return list(kind, pairsCell(o), valueCell(o.Meta))
	case api.Func:
		return list(kind, number(o.A), number(o.B), slots)
	case api.Co:
		return list(kind, number(o.A), slots)
	}
	return list(kind, slots)
}

// pairsCell is the list of a table's keys, each with its value behind it.
func pairsCell(o api.Object) api.Cell {
	l := make([]api.Cell, 0, 2*len(o.Keys))
	for i, k := range o.Keys {
		l = append(l, valueCell(k), valueCell(o.Vals[i]))
	}
	return list(l...)
}

func valueCell(v api.Value) api.Cell {
	kind := number(v.K)
	switch v.K {
	case api.Nil, api.False, api.True:
		return list(kind)
	case api.Number:
		return list(kind, code.Number(uint64(v.N)))
	case api.Text:
		return list(kind, code.Text(v.S))
	}
	return list(kind, number(v.O))
}
