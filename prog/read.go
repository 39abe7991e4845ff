package prog

import "minstrel/api"

// FromCell is the function of which ToCell tells c.
func FromCell(c api.Cell) (api.Proto, api.Errno) {
	r := reader{}
	p, is := r.function(c)
	if !is || Check(p) != api.OK {
		return api.Proto{}, api.ErrForm
	}
	return p, api.OK
}

// reader reads the functions of a script, and counts them: one list may lie in a cell so often that reading would never end.
type reader struct {
	funcs int
}

func (r *reader) function(c api.Cell) (api.Proto, bool) {
	r.funcs++
	if r.funcs > api.MaxFuncs || !isList(c, functionParts) {
		return api.Proto{}, false
	}
	sizes, is := numbers(c.L[:2])
	if !is {
		return api.Proto{}, false
	}
	ups, isUps := list(c.L[2], readUp)
	lines, isCode := list(c.L[3], readOrder)
	consts, isConsts := list(c.L[4], readConstant)
	protos, isProtos := list(c.L[5], r.function)
	p := api.Proto{Params: sizes[0], Regs: sizes[1], Ups: ups, Code: lines, Consts: consts, Protos: protos}
	return p, isUps && isCode && isConsts && isProtos
}

// isList tells whether c is a list of just so many cells.
func isList(c api.Cell, count int) bool {
	return c.K == api.CellList && len(c.L) == count
}

// list is what one reads of each cell of the list c, if c is a list and one can read them all.
func list[T any](c api.Cell, one func(api.Cell) (T, bool)) ([]T, bool) {
	if c.K != api.CellList {
		return nil, false
	}
	all := make([]T, len(c.L))
	for i, part := range c.L {
		x, is := one(part)
		if !is {
			return nil, false
		}
		all[i] = x
	}
	return all, true
}

// numbers are those of the cells, none above MaxCode: of most the range is smaller, which Check knows.
func numbers(cells []api.Cell) ([]int, bool) {
	all := make([]int, len(cells))
	for i, c := range cells {
		if c.K != api.CellNumber || c.N > api.MaxCode {
			return nil, false
		}
		all[i] = int(c.N)
	}
	return all, true
}

func readUp(c api.Cell) (api.Up, bool) {
	if !isList(c, upParts) {
		return api.Up{}, false
	}
	n, is := numbers(c.L)
	if !is || n[0] > 1 {
		return api.Up{}, false
	}
	return api.Up{Own: n[0] == 1, At: n[1]}, true
}

func readOrder(c api.Cell) (api.Instr, bool) {
	if !isList(c, orderParts) {
		return api.Instr{}, false
	}
	n, is := numbers(c.L)
	if !is {
		return api.Instr{}, false
	}
	return api.Instr{Op: n[0], A: n[1], B: n[2], C: n[3]}, true
}

// readConstant reads a constant: of the kinds below Number it has nothing but its kind.
func readConstant(c api.Cell) (api.Value, bool) {
	if len(c.L) == 0 {
		return api.Value{}, false
	}
	kind, is := numbers(c.L[:1])
	switch {
	case !is:
		return api.Value{}, false
	case kind[0] < api.Number:
		return api.Value{K: kind[0]}, isList(c, 1)
	case kind[0] == api.Number && isList(c, 2) && c.L[1].K == api.CellNumber:
		return api.Value{K: api.Number, N: api.Num(c.L[1].N)}, true
	case kind[0] == api.Text && isList(c, 2) && c.L[1].K == api.CellText:
		return api.Value{K: api.Text, S: c.L[1].S}, true
	}
	return api.Value{}, false
}
