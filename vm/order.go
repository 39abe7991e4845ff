package vm

import (
	"minstrel/api"
	"minstrel/flo"
	"minstrel/prog"
	"minstrel/quo"
	"minstrel/sum"
	"minstrel/text"
	"minstrel/value"
	"minstrel/whole"
)

// order does the next order of a call.
func (m *machine) order(c *call) {
	in := c.Code[c.next]
	m.pay(prog.Cost(in.Op))
	c.next++
	switch in.Op {
	case api.OpJump:
		m.jump(c, in.A)
	case api.OpJumpIf, api.OpJumpNot:
		if value.Truth(c.regs[in.A]) == (in.Op == api.OpJumpIf) {
			m.jump(c, in.B)
		}
	case api.OpCall:
		behind := in.A + 1
		m.call(c.regs[in.A], c.regs[behind:behind+in.B])
	case api.OpReturn:
		m.running.pop()
		m.answer(c.regs[in.A])
	case api.OpEnd:
		m.running.pop()
		m.answer(api.Value{})
	case api.OpForCheck, api.OpForStep:
		three := c.regs[in.A : in.A+3]
		if stepsOn(in.Op, three) == (in.Op == api.OpForStep) {
			c.next = in.B
		}
	case api.OpSetBox, api.OpSetUp, api.OpSetGlobal, api.OpSetIndex:
		m.store(c, in)
	default:
		c.regs[in.A] = m.load(c, in)
	}
}

// jump goes on at another place. Only what goes back is paid for, so that no loop goes on for free.
func (m *machine) jump(c *call, to int) {
	if to < c.next {
		m.pay(1)
	}
	c.next = to
}

// stepsOn makes a for's step, if the order is that, and tells whether there is a round to come. A NaN is neither above nor below any number.
func stepsOn(op int, three []api.Value) bool {
	zero := whole.FromInt(0)
	for _, v := range three {
		if v.K != api.Number {
			raise("for")
		}
	}
	to, step := three[1].N, three[2].N
	if op == api.OpForStep {
		three[0] = value.Num(sum.Add(three[0].N, step))
	} else if flo.Equal(step, zero) {
		raise("for")
	}
	from := three[0].N
	return flo.Less(zero, step) && !flo.Less(to, from) || flo.Less(step, zero) && !flo.Less(from, to)
}

// store does the orders that change what lies in no register.
func (m *machine) store(c *call, in api.Instr) {
	switch in.Op {
	case api.OpSetBox:
		m.heap.SetSlot(m.box(c.regs[in.A]), 0, c.regs[in.B])
	case api.OpSetUp:
		m.heap.SetSlot(m.box(c.ups[in.A]), 0, c.regs[in.B])
	case api.OpSetGlobal:
		m.set(m.globals, c.Consts[in.A], c.regs[in.B])
	case api.OpSetIndex:
		m.set(tableOf(c.regs[in.A]), c.regs[in.B], c.regs[in.C])
	}
}

// load is what an order lets its register A have.
func (m *machine) load(c *call, in api.Instr) api.Value {
	switch in.Op {
	case api.OpConst:
		return c.Consts[in.B]
	case api.OpMove, api.OpShift:
		return c.regs[in.B]
	case api.OpClear:
		return api.Value{}
	case api.OpNewBox:
		return m.newBox(c.regs[in.B])
	case api.OpGetBox:
		return m.heap.Slot(m.box(c.regs[in.B]), 0)
	case api.OpGetUp:
		return m.heap.Slot(m.box(c.ups[in.B]), 0)
	case api.OpGetGlobal:
		return m.heap.Get(m.globals, c.Consts[in.B])
	case api.OpMake:
		return m.table()
	case api.OpClosure:
		return m.closure(c, in.B)
	case api.OpNot:
		return value.Bool(!value.Truth(c.regs[in.B]))
	case api.OpNeg:
		return value.Num(flo.Neg(number(c.regs[in.B])))
	case api.OpLen:
		return m.length(c.regs[in.B])
	case api.OpIndex:
		return m.heap.Look(tableOf(c.regs[in.B]), c.regs[in.C])
	}
	return reckon(in.Op, c.regs[in.B], c.regs[in.C])
}

// box is the object of a Box.
func (m *machine) box(v api.Value) int {
	if _, is := m.object(v, api.Box); !is {
		raise("box")
	}
	return v.O
}

func (m *machine) newBox(v api.Value) api.Value {
	o := m.made(m.heap.Make(api.Box, 0, 0, 1))
	m.heap.SetSlot(o, 0, v)
	return api.Value{K: api.Box, O: o}
}

// closure is a new function: one of those within that which is called.
func (m *machine) closure(c *call, within int) api.Value {
	f := m.scripts[c.script][c.within[within]]
	o := m.made(m.heap.Make(api.Func, f.script, f.place, len(f.Ups)))
	for i, up := range f.Ups {
		from := c.ups
		if up.Own {
			from = c.regs
		}
		m.heap.SetSlot(o, i, from[up.At])
	}
	return api.Value{K: api.Func, O: o}
}

func (m *machine) length(v api.Value) api.Value {
	n := 0
	switch v.K {
	case api.Text:
		n = len(v.S)
	case api.Table:
		n = m.heap.Size(v.O)
	default:
		raise("len")
	}
	return value.Num(whole.FromInt(int64(n)))
}

// tableOf is the object of a Table.
func tableOf(v api.Value) int {
	if v.K != api.Table {
		raise("index")
	}
	return v.O
}

// number is that of a Number.
func number(v api.Value) api.Num {
	if v.K != api.Number {
		raise("arith")
	}
	return v.N
}

// reckon is what an order makes of two values.
func reckon(op int, a, b api.Value) api.Value {
	switch op {
	case api.OpAdd:
		return value.Num(sum.Add(number(a), number(b)))
	case api.OpSub:
		return value.Num(sum.Sub(number(a), number(b)))
	case api.OpMul:
		return value.Num(sum.Mul(number(a), number(b)))
	case api.OpDiv:
		return value.Num(quo.Div(number(a), number(b)))
	case api.OpMod:
		return value.Num(quo.Mod(number(a), number(b)))
	case api.OpConcat:
		return joined(a, b)
	case api.OpEq:
		return value.Bool(value.Same(a, b))
	case api.OpNe:
		return value.Bool(!value.Same(a, b))
	case api.OpLt:
		return value.Bool(less(a, b))
	case api.OpGt:
		return value.Bool(less(b, a))
	case api.OpLe:
		return value.Bool(less(a, b) || value.Same(a, b))
	}
	return value.Bool(less(b, a) || value.Same(a, b))
}

// joined is both as one text.
func joined(a, b api.Value) api.Value {
	if !isShown(a) || !isShown(b) {
		raise("concat")
	}
	s, e := text.Join(value.Show(a), value.Show(b))
	if e != api.OK {
		raise("long")
	}
	return value.Text(s)
}

func isShown(v api.Value) bool { return v.K == api.Text || v.K == api.Number }

// less compares two Numbers or two Texts.
func less(a, b api.Value) bool {
	switch {
	case a.K == api.Number && b.K == api.Number:
		return flo.Less(a.N, b.N)
	case a.K == api.Text && b.K == api.Text:
		return text.Less(a.S, b.S)
	}
	raise("compare")
	return false
}
