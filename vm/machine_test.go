package vm_test

import (
	"minstrel/api"
	"minstrel/value"
)

// plain runs functions order by order, on a bench.
type plain struct {
	*bench
	progs [][]flatOne
}

// flatOne is a function of a script, and where those within it stand.
type flatOne struct {
	api.Proto
	kids []int
}

func newPlain(room int, seed uint64) *plain {
	m := &plain{bench: newBench(room, seed)}
	m.run = func(object int, args []api.Value) api.Value {
		o, _ := m.heap.Object(object)
		if o.A < 0 || o.A >= len(m.progs) || o.B < 0 || o.B >= len(m.progs[o.A]) {
			return m.throw("call")
		}
		return m.function(o.A, o.B, append(o.Slots, make([]api.Value, 100)...), args)
	}
	return m
}

// script runs a script's function.
func (m *plain) script(p api.Proto, fuel int) api.Outcome {
	m.progs = append(m.progs, flat(nil, p))
	return m.whole(fuel, func() api.Value { return m.function(len(m.progs)-1, 0, nil, nil) })
}

// flat lays a function down behind others, and behind it those within.
func flat(l []flatOne, p api.Proto) []flatOne {
	at := len(l)
	l = append(l, flatOne{Proto: p})
	for _, kid := range p.Protos {
		l[at].kids = append(l[at].kids, len(l))
		l = flat(l, kid)
	}
	return l
}

// costs are those of the orders, in order; a jump's is added when it goes.
const costs = "11000" + "111111111" + "111" + "111111111111" + "000" + "110" + "111"

// function runs one to its answer.
func (m *plain) function(script, place int, ups, args []api.Value) api.Value {
	f := m.progs[script][place]
	regs := make([]api.Value, f.Regs)
	for i := 0; i < f.Params && i < len(args); i++ {
		regs[i] = args[i]
	}
	for pc := 0; ; {
		in := f.Code[pc]
		to := m.target(in, pc, regs)
		if to <= pc && in.Op != api.OpForCheck && in.Op != api.OpForStep {
			m.pay(1)
		}
		m.pay(int(costs[in.Op] - '0'))
		switch in.Op {
		case api.OpReturn:
			return regs[in.A]
		case api.OpEnd:
			return api.Value{}
		case api.OpForCheck, api.OpForStep:
			if m.forOrder(in.Op, regs[in.A:in.A+3]) {
				to = in.B
			}
		case api.OpClosure:
			regs[in.A] = m.newFunction(script, f.kids[in.B], regs, ups)
		case api.OpCall:
			regs[in.A] = m.call(regs[in.A], regs[in.A+1:in.A+1+in.B])
		case api.OpConst, api.OpGetGlobal, api.OpSetGlobal, api.OpGetUp, api.OpSetUp:
			m.outer(in, f.Consts, regs, ups)
		default:
			m.inner(in, regs)
		}
		pc = to
	}
}

// target is where it goes on behind an order that is no for's.
func (m *plain) target(in api.Instr, pc int, regs []api.Value) int {
	switch {
	case in.Op == api.OpJump:
		return in.A
	case in.Op == api.OpJumpIf && value.Truth(regs[in.A]), in.Op == api.OpJumpNot && !value.Truth(regs[in.A]):
		return in.B
	}
	return pc + 1
}

// forOrder tells whether it goes on at B.
func (m *plain) forOrder(op int, three []api.Value) bool {
	if !all(api.Number, three...) || op == api.OpForCheck && float(three[2]) == 0 {
		m.throw("for")
	}
	if op == api.OpForStep {
		three[0] = num(float(three[0]) + float(three[2]))
		return goesOn(three[0], three[1], three[2])
	}
	return !goesOn(three[0], three[1], three[2])
}

func (m *plain) newFunction(script, place int, regs, ups []api.Value) api.Value {
	l := m.progs[script][place].Ups
	o := m.need(m.heap.Make(api.Func, script, place, len(l)))
	for i, up := range l {
		from := ups
		if up.Own {
			from = regs
		}
		m.heap.SetSlot(o, i, from[up.At])
	}
	return api.Value{K: api.Func, O: o}
}

// boxed is the object of a Box.
func (m *plain) boxed(v api.Value) int {
	if o, is := m.heap.Object(v.O); v.K != api.Box || !is || o.K != api.Box {
		m.throw("box")
	}
	return v.O
}

// outer does the orders that know constants, global variables or ups.
func (m *plain) outer(in api.Instr, consts, regs, ups []api.Value) {
	switch in.Op {
	case api.OpConst:
		regs[in.A] = consts[in.B]
	case api.OpGetGlobal:
		regs[in.A] = m.global(consts[in.B])
	case api.OpSetGlobal:
		m.setGlobal(consts[in.A], regs[in.B])
	case api.OpGetUp:
		regs[in.A] = m.heap.Slot(m.boxed(ups[in.B]), 0)
	case api.OpSetUp:
		m.heap.SetSlot(m.boxed(ups[in.A]), 0, regs[in.B])
	}
}

// inner does the orders that know registers alone.
func (m *plain) inner(in api.Instr, regs []api.Value) {
	switch in.Op {
	case api.OpJump, api.OpJumpIf, api.OpJumpNot:
	case api.OpMove, api.OpShift:
		regs[in.A] = regs[in.B]
	case api.OpClear:
		regs[in.A] = api.Value{}
	case api.OpNewBox:
		regs[in.A] = api.Value{K: api.Box, O: m.box(regs[in.B])}
	case api.OpGetBox:
		regs[in.A] = m.heap.Slot(m.boxed(regs[in.B]), 0)
	case api.OpSetBox:
		m.heap.SetSlot(m.boxed(regs[in.A]), 0, regs[in.B])
	case api.OpIndex:
		regs[in.A] = m.index(regs[in.B], regs[in.C])
	case api.OpSetIndex:
		m.setIndex(regs[in.A], regs[in.B], regs[in.C])
	case api.OpMake:
		regs[in.A] = m.table()
	case api.OpNot, api.OpNeg, api.OpLen:
		regs[in.A] = m.unary([]string{"not", "-", "#"}[in.Op-api.OpNot], regs[in.B])
	default:
		signs := []string{"+", "-", "*", "/", "%", "..", "==", "~=", "<", "<=", ">", ">="}
		regs[in.A] = m.binary(signs[in.Op-api.OpAdd], regs[in.B], regs[in.C])
	}
}
