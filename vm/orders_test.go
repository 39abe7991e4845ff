package vm_test

import (
	"math"
	"math/rand"

	"minstrel/api"
	"minstrel/value"
)

// orderMaker makes functions by chance that Check takes, most of which no script would give.
type orderMaker struct {
	r *rand.Rand
}

// operandsOf says what the operands of each order are: R a register, 3 one with two behind it, K a constant, U an up, O a place, N how many arguments, F a function within.
var operandsOf = []string{"RK", "RR", "RR", "R", "RR", "RR", "RR", "RU", "UR", "RK", "KR", "RRR", "RRR", "R", "RR", "RR", "RR", "RRR", "RRR", "RRR", "RRR", "RRR", "RRR", "RRR", "RRR", "RRR", "RRR", "RRR", "RRR", "O", "RO", "RO", "RN", "R", "", "RF", "3O", "3O"}

// constants are of every kind; behind them come the name of a variable that functions are set to, and those of the built-in functions.
func constants() []api.Value {
	l := []api.Value{{}, value.Bool(false), value.Bool(true), num(0), num(math.Copysign(0, -1)), num(1), num(2), num(-1), num(2.5), num(300), num(math.Inf(1)), num(math.Inf(-1)), num(math.NaN()), num(1e17), num(1e19), value.Text(""), value.Text("a"), value.Text("12"), value.Text("nil"), value.Text("x")}
	for _, name := range libNames {
		l = append(l, value.Text(name))
	}
	return l
}

// function is one within about, with functions in so many levels within it.
func (m orderMaker) function(about *api.Proto, levels int) api.Proto {
	p := api.Proto{Regs: 4 + m.r.Intn(6), Consts: constants()}
	p.Params = m.r.Intn(4)
	for range m.r.Intn(4) {
		if about == nil {
			break
		}
		u := api.Up{Own: m.r.Intn(2) == 0 || len(about.Ups) == 0}
		if u.Own {
			u.At = m.r.Intn(about.Regs)
		} else {
			u.At = m.r.Intn(len(about.Ups))
		}
		p.Ups = append(p.Ups, u)
	}
	if levels > 0 {
		p.Protos = make([]api.Proto, 1+m.r.Intn(3))
	}
	length := 3 + m.r.Intn(30)
	for len(p.Code) < length {
		choice := m.r.Intn(10)
		if about == nil && m.r.Intn(8) > 0 {
			choice = 1 + m.r.Intn(3) // what hardly ever fails, so that the whole script goes on for a while
		}
		p.Code = append(p.Code, m.some(p, length, choice)...)
	}
	p.Code = append(p.Code, []api.Instr{{Op: api.OpEnd}, {Op: api.OpReturn, A: m.r.Intn(p.Regs)}, {Op: api.OpJump, A: m.r.Intn(length)}}[m.r.Intn(3)])
	for i := range p.Protos {
		p.Protos[i] = m.function(&p, levels-1)
	}
	return p
}

// some are orders that go well together, or just any.
func (m orderMaker) some(p api.Proto, length, choice int) []api.Instr {
	name := func(lib int) int { return len(p.Consts) - len(libNames) + lib }
	a, b := m.r.Intn(p.Regs-2), m.r.Intn(p.Regs)
	switch choice {
	case 0: // a built-in function of what the registers have
		return []api.Instr{{Op: api.OpGetGlobal, A: a, B: name(m.r.Intn(len(libNames)))}, m.any(p, length, a+1), {Op: api.OpCall, A: a, B: m.r.Intn(min(4, p.Regs-a))}}
	case 1: // a Box, and a function that may share it
		if len(p.Protos) > 0 && m.r.Intn(2) == 0 {
			return []api.Instr{{Op: api.OpClosure, A: b, B: m.r.Intn(len(p.Protos))}, {Op: api.OpSetGlobal, A: name(-1), B: b}}
		}
		if len(p.Protos) > 0 {
			return []api.Instr{{Op: api.OpNewBox, A: b, B: b}, {Op: api.OpClosure, A: a, B: m.r.Intn(len(p.Protos))}}
		}
	case 2: // a pcall of a function, or a thread
		if len(p.Protos) > 0 {
			lib := []int{api.LibPcall, api.LibCreate}[m.r.Intn(2)]
			return []api.Instr{{Op: api.OpGetGlobal, A: a, B: name(lib)}, {Op: api.OpClosure, A: a + 1, B: m.r.Intn(len(p.Protos))}, {Op: api.OpCall, A: a, B: 1 + m.r.Intn(2)}}
		}
	case 3: // a resume of what there is
		return []api.Instr{{Op: api.OpMove, A: a + 1, B: b}, {Op: api.OpGetGlobal, A: a, B: name(api.LibResume)}, {Op: api.OpCall, A: a, B: 1 + m.r.Intn(2)}}
	case 4: // a function that may be the one that is being called
		return []api.Instr{{Op: api.OpGetGlobal, A: a, B: name(-1)}, {Op: api.OpCall, A: a, B: m.r.Intn(3)}}
	case 5: // a for
		return []api.Instr{{Op: api.OpConst, A: a, B: m.r.Intn(15)}, {Op: api.OpConst, A: a + 1, B: m.r.Intn(15)}, {Op: api.OpConst, A: a + 2, B: m.r.Intn(15)}, {Op: api.OpForCheck, A: a, B: m.r.Intn(length)}}
	}
	return []api.Instr{m.any(p, length, -1)}
}

// any is an order for which p has all that it needs, with the register a as its first operand, if that is one.
func (m orderMaker) any(p api.Proto, length, a int) api.Instr {
	for {
		in := api.Instr{Op: m.r.Intn(len(operandsOf))}
		x := []*int{&in.A, &in.B, &in.C}
		fits := a < 0 || operandsOf[in.Op] != "" && operandsOf[in.Op][0] == 'R'
		for i, letter := range operandsOf[in.Op] {
			limit := map[rune]int{'R': p.Regs, '3': p.Regs - 2, 'K': len(p.Consts), 'U': len(p.Ups), 'O': length, 'N': p.Regs - in.A, 'F': len(p.Protos)}[letter]
			if limit == 0 {
				fits = false
				break
			}
			*x[i] = m.r.Intn(limit)
			if i == 0 && letter == 'R' && a >= 0 {
				in.A = a
			}
		}
		if fits {
			return in
		}
	}
}
