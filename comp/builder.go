package comp

import "minstrel/api"

// variable is where a variable of the function lies: in its register, or, if functions within share it, in the Box that its register has.
type variable struct {
	reg    int
	shared bool
}

// builder is a function whose orders are being made. Its registers are a stack: variables that are there, and above them what exps have come to.
type builder struct {
	api.Proto
	free   int               // the lowest register that is not taken
	vars   []variable        // those that are there, each at its slot
	places map[api.Value]int // of constants
	breaks []int             // the jumps out of the innermost loop, whose end isn't known yet
}

// function is the function of a block.
func function(params []api.Node, block api.Node, ups []api.Up) api.Proto {
	b := builder{places: map[api.Value]int{}}
	b.Params, b.Ups = len(params), ups
	for _, p := range params {
		b.add(p, b.take())
	}
	b.block(block)
	// Also behind a return, since a jump over it needs an order to land at.
	b.emit(api.OpEnd)
	return b.Proto
}

// inner is the number of a function within this one.
func (b *builder) inner(n api.Node) int {
	ups := make([]api.Up, len(n.Ups))
	for i, up := range n.Ups {
		if up.Own {
			up.At = b.vars[up.At].reg
		}
		ups[i] = up
	}
	last := len(n.L) - 1
	b.Protos = append(b.Protos, function(n.L[:last], n.L[last], ups))
	return len(b.Protos) - 1
}

// take takes the lowest free register.
func (b *builder) take() int {
	reg := b.free
	b.free++
	b.Regs = max(b.Regs, b.free)
	return reg
}

// add lets the variable of a node be there, with what its register has. A shared one is a new Box each time that this is run.
func (b *builder) add(n api.Node, reg int) {
	v := variable{reg: reg, shared: n.B&isShared != 0}
	if v.shared {
		b.emit(api.OpNewBox, reg, reg)
	}
	b.vars = append(b.vars, v)
}

// place is that of a constant, which is laid down where it is met first.
func (b *builder) place(v api.Value) int {
	at, there := b.places[v]
	if !there {
		at = len(b.Consts)
		b.places[v] = at
		b.Consts = append(b.Consts, v)
	}
	return at
}

// emit puts an order behind the others, and tells its place.
func (b *builder) emit(op int, operands ...int) int {
	var x [3]int
	copy(x[:], operands)
	b.Code = append(b.Code, api.Instr{Op: op, A: x[0], B: x[1], C: x[2]})
	return len(b.Code) - 1
}

// land lets jumps go to the order that comes next.
func (b *builder) land(jumps ...int) {
	for _, at := range jumps {
		in := &b.Code[at]
		if in.Op == api.OpJump {
			in.A = len(b.Code)
		} else {
			in.B = len(b.Code)
		}
	}
}
