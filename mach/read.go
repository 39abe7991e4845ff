package mach

import (
	"minstrel/api"
	"minstrel/code"
	"minstrel/comp"
)

// FromState is the machine with that State.
func FromState(c api.Cell) (*Machine, api.Errno) {
	if _, e := code.Encode(c); e != api.OK {
		return nil, api.ErrForm
	}
	m, is := read(c)
	if !is || !m.sound() {
		return nil, api.ErrForm
	}
	w, e := m.world()
	if e != api.OK {
		return nil, api.ErrForm
	}
	// What read passes over, what a heap has in another form, and what stands in another order: all of it is told otherwise than it was read.
	made := ordered(w, m.limit, m.fuel, m.scripts)
	if !code.Same(made.State(), c) {
		return nil, api.ErrForm
	}
	return made, api.OK
}

// read is the machine of which a cell tells, if there are such scripts, and such a limit and fuel. What stands in the cell besides is passed over, and what is missing is zero.
func read(c api.Cell) (*Machine, bool) {
	m, e := New(wholeAt(c, 0), wholeAt(c, 1), at(c, 2).N)
	if e != api.OK {
		return nil, false
	}
	for _, text := range parts(at(c, 3)) {
		p, _, e := comp.Script(text.S)
		if e != api.OK {
			return nil, false
		}
		m.scripts = append(m.scripts, script{text.S, p})
	}
	m.objects = things(at(c, 4), readObject)
	return m, true
}

// parts are the cells of a list.
func parts(c api.Cell) []api.Cell {
	if c.K != api.CellList {
		return nil
	}
	return c.L
}

// at is a cell of a list, the zero one where there is none.
func at(c api.Cell, i int) api.Cell {
	if l := parts(c); i < len(l) {
		return l[i]
	}
	return api.Cell{}
}

// wholeAt is a number of a list. One of which no int is made by its value is made one below 0, and back again when it is told.
func wholeAt(c api.Cell, i int) int { return int(at(c, i).N) }

// things are what the cells of a list tell of.
func things[T any](c api.Cell, read func(api.Cell) T) []T {
	var l []T
	for _, part := range parts(c) {
		l = append(l, read(part))
	}
	return l
}

func readObject(c api.Cell) api.Object {
	o := api.Object{K: wholeAt(c, 0)}
	switch o.K {
	case api.Table:
		o.Keys, o.Vals = readPairs(at(c, 1))
		o.Meta = readValue(at(c, 2))
	case api.Func:
		o.A, o.B, o.Slots = wholeAt(c, 1), wholeAt(c, 2), things(at(c, 3), readValue)
	case api.Co:
		o.A, o.Slots = wholeAt(c, 1), things(at(c, 2), readValue)
	case api.Box:
		o.Slots = things(at(c, 1), readValue)
	}
	return o
}

func readPairs(c api.Cell) ([]api.Value, []api.Value) {
	var keys, vals []api.Value
	l := things(c, readValue)
	for i := 1; i < len(l); i += 2 {
		keys, vals = append(keys, l[i-1]), append(vals, l[i])
	}
	return keys, vals
}

func readValue(c api.Cell) api.Value {
	v := api.Value{K: wholeAt(c, 0)}
	switch v.K {
	case api.Number:
		v.N = api.Num(at(c, 1).N)
	case api.Text:
		v.S = at(c, 1).S
	default:
		v.O = wholeAt(c, 1)
	}
	return v
}
