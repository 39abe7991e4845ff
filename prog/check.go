package prog

import (
	"slices"

	"minstrel/api"
	"minstrel/value"
)

// Check tells whether the machine can run p as a whole script.
func Check(p api.Proto) api.Errno {
	if isLong(p) {
		return api.ErrLong
	}
	if len(p.Ups) > 0 || !isSound(p) {
		return api.ErrArg
	}
	c := checker{funcs: 1}
	return c.functions(p, 1)
}

// checker goes through the functions within a script, and counts them with the script.
type checker struct {
	funcs int
}

// functions tells the first error of the functions within about, which lie in deep functions.
func (c *checker) functions(about api.Proto, deep int) api.Errno {
	for _, p := range about.Protos {
		c.funcs++
		if isLong(p) || deep > api.MaxNest || c.funcs > api.MaxFuncs {
			return api.ErrLong
		}
		if !isSound(p) || !findsUps(p, about) {
			return api.ErrArg
		}
		if e := c.functions(p, deep+1); e != api.OK {
			return e
		}
	}
	return api.OK
}

// isLong tells whether p by itself, whatever it lies in, is too great.
func isLong(p api.Proto) bool {
	return p.Regs > api.MaxRegs || len(p.Code) > api.MaxCode || len(p.Consts) > api.MaxCode || len(p.Ups) > api.MaxUps
}

// isSound tells whether p can be run, as far as its ups play no part.
func isSound(p api.Proto) bool {
	// Params that are not below 0 and not above Regs: so Regs isn't below 0 either.
	if !isIn(p.Params, api.MaxArgs+1) || p.Params > p.Regs {
		return false
	}
	if slices.ContainsFunc(p.Consts, isNoConstant) || !endsWell(p.Code) {
		return false
	}
	for _, in := range p.Code {
		if !isOrder(in, p) {
			return false
		}
	}
	return true
}

// isIn tells whether x is one of so many, counted from 0.
func isIn(x, count int) bool {
	return x >= 0 && x < count
}

// isNoConstant: an object's number would mean another object in each heap, and two forms of a value would be two cells.
func isNoConstant(v api.Value) bool {
	return !isIn(v.K, api.Text+1) || value.Normal(v) != v
}

// endsWell tells whether the machine doesn't go on behind the last order.
func endsWell(lines []api.Instr) bool {
	if len(lines) == 0 {
		return false
	}
	switch lines[len(lines)-1].Op {
	case api.OpJump, api.OpReturn, api.OpEnd:
		return true
	}
	return false
}

// isOrder tells whether the order is one, and its operands are in their ranges in p.
func isOrder(in api.Instr, p api.Proto) bool {
	row, is := orderOf(in.Op)
	for i, x := range [...]int{in.A, in.B, in.C} {
		// A comes ahead of B: the range of many hangs on an A that is in its own.
		if o := row.operands[i]; o != unused && !isIn(x, rangeOf(o, in.A, p)) {
			return false
		}
	}
	return is
}

// rangeOf is how many an operand is one of, in p, beside the register a.
func rangeOf(o operand, a int, p api.Proto) int {
	switch o {
	case register:
		return p.Regs
	case three:
		return p.Regs - 2
	case constant:
		return len(p.Consts)
	case up:
		return len(p.Ups)
	case out:
		return len(p.Code)
	case many:
		return min(p.Regs-a, api.MaxArgs+1)
	case within:
		return len(p.Protos)
	}
	return 0
}

// findsUps tells whether each up of p is in a register of the function about it, or among that one's ups.
func findsUps(p, about api.Proto) bool {
	for _, u := range p.Ups {
		count := len(about.Ups)
		if u.Own {
			count = about.Regs
		}
		if !isIn(u.At, count) {
			return false
		}
	}
	return true
}
