package comp_test

import (
	"minstrel/api"
	"minstrel/prog"
	"minstrel/value"
)

// machine runs functions order by order, as chapters 13 and 17 say.
type machine struct {
	*bench
	flat []api.Proto
	kids [][]int // of each of flat the places there of the functions within it
}

// runOrders runs a script's function.
func runOrders(p api.Proto, fuel, room int) outcome {
	m := &machine{bench: newBench(fuel, room)}
	m.flatten(p)
	m.run = func(object int, arguments []api.Value) api.Value {
		o, _ := m.heap.Object(object)
		return m.function(o.B, o.Slots, arguments)
	}
	return m.whole(func() api.Value { return m.function(0, nil, nil) })
}

// flatten lays a function down, and behind it those within.
func (m *machine) flatten(p api.Proto) int {
	at := len(m.flat)
	m.flat, m.kids = append(m.flat, p), append(m.kids, nil)
	for _, kid := range p.Protos {
		place := m.flatten(kid)
		m.kids[at] = append(m.kids[at], place)
	}
	return at
}

// function runs the function at a place in flat.
func (m *machine) function(at int, ups, arguments []api.Value) api.Value {
	p := m.flat[at]
	regs := make([]api.Value, p.Regs)
	copy(regs[:p.Params], arguments)
	for pc := 0; ; {
		in := p.Code[pc]
		m.pay(prog.Cost(in.Op))
		next := pc + 1
		switch in.Op {
		case api.OpReturn:
			return regs[in.A]
		case api.OpEnd:
			return api.Value{}
		case api.OpJump:
			next = in.A
		case api.OpJumpIf, api.OpJumpNot:
			if value.Truth(regs[in.A]) == (in.Op == api.OpJumpIf) {
				next = in.B
			}
		case api.OpForCheck, api.OpForStep:
			if m.forOrder(in.Op, regs[in.A:in.A+3]) {
				next = in.B
			}
		case api.OpClosure:
			regs[in.A] = m.newFunction(m.kids[at][in.B], regs, ups)
		case api.OpCall:
			regs[in.A] = m.call(regs[in.A], append([]api.Value(nil), regs[in.A+1:in.A+1+in.B]...))
		case api.OpConst, api.OpGetGlobal, api.OpSetGlobal, api.OpGetUp, api.OpSetUp:
			m.outer(in, p, regs, ups)
		default:
			m.inner(in, regs)
		}
		if isJump(in.Op) && next <= pc {
			m.pay(1)
		}
		pc = next
	}
}

func isJump(op int) bool { return op == api.OpJump || op == api.OpJumpIf || op == api.OpJumpNot }

// forOrder tells whether it goes on at B.
func (m *machine) forOrder(op int, three []api.Value) bool {
	if !numbers(three...) || op == api.OpForCheck && float(three[2]) == 0 {
		m.raise("for")
	}
	if op == api.OpForStep {
		three[0] = m.binary("+", three[0], three[2])
		return goesOn(three[0], three[1], three[2])
	}
	return !goesOn(three[0], three[1], three[2])
}

func (m *machine) newFunction(at int, regs, ups []api.Value) api.Value {
	f := m.closure(at, len(m.flat[at].Ups))
	for i, up := range m.flat[at].Ups {
		from := ups
		if up.Own {
			from = regs
		}
		m.heap.SetSlot(f.O, i, from[up.At])
	}
	return f
}

// boxed is the object of a Box.
func (m *machine) boxed(v api.Value) int {
	if v.K != api.Box {
		m.raise("box")
	}
	return v.O
}

// outer does the orders that know constants, global variables or ups.
func (m *machine) outer(in api.Instr, p api.Proto, regs, ups []api.Value) {
	switch in.Op {
	case api.OpConst:
		regs[in.A] = p.Consts[in.B]
	case api.OpGetGlobal:
		regs[in.A] = m.global(p.Consts[in.B].S)
	case api.OpSetGlobal:
		m.setGlobal(p.Consts[in.A].S, regs[in.B])
	case api.OpGetUp:
		regs[in.A] = m.heap.Slot(m.boxed(ups[in.B]), 0)
	case api.OpSetUp:
		m.heap.SetSlot(m.boxed(ups[in.A]), 0, regs[in.B])
	}
}

// inner does the orders that know registers alone.
func (m *machine) inner(in api.Instr, regs []api.Value) {
	switch in.Op {
	case api.OpMove, api.OpShift:
		regs[in.A] = regs[in.B]
	case api.OpClear:
		regs[in.A] = api.Value{}
	case api.OpNewBox:
		regs[in.A] = api.Value{K: api.Box, O: m.box(regs[in.B])}
	case api.OpGetBox:
		regs[in.A] = m.heap.Slot(m.boxed(regs[in.B]), 0)
	case api.OpSetBox:
		m.heap.SetSlot(m.boxed(regs[in.A]), 0, regs[in.B])
	case api.OpIndex:
		regs[in.A] = m.index(regs[in.B], regs[in.C])
	case api.OpSetIndex:
		m.setIndex(regs[in.A], regs[in.B], regs[in.C])
	case api.OpMake:
		regs[in.A] = m.table()
	case api.OpNot, api.OpNeg, api.OpLen:
		regs[in.A] = m.unary([]string{"not", "-", "#"}[in.Op-api.OpNot], regs[in.B])
	default:
		signs := []string{"+", "-", "*", "/", "%", "..", "==", "~=", "<", "<=", ">", ">="}
		regs[in.A] = m.binary(signs[in.Op-api.OpAdd], regs[in.B], regs[in.C])
	}
}
