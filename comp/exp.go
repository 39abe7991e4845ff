package comp

import (
	"minstrel/api"
	"minstrel/value"
	"minstrel/whole"
)

// exp makes the orders by which the lowest free register has what an exp comes to, and takes that register alone. Each exp but And and Or is one order that costs 1, so that no order may be saved.
func (b *builder) exp(n api.Node) int {
	to := b.free
	switch n.K {
	case api.NilExp, api.FalseExp, api.TrueExp, api.NumExp, api.TextExp:
		b.load(literal(n))
	case api.LocalExp:
		b.get(to, n.A)
	case api.UpExp:
		b.emit(api.OpGetUp, to, n.A)
	case api.GlobalExp:
		b.emit(api.OpGetGlobal, to, b.name(n))
	case api.Index:
		table, key := b.exp(n.L[0]), b.exp(n.L[1])
		b.emit(api.OpIndex, to, table, key)
	case api.Call:
		b.call(n.L)
	case api.FuncExp:
		b.emit(api.OpClosure, to, b.inner(n))
	case api.Un:
		b.emit(unary(n.S), to, b.exp(n.L[0]))
	case api.Bin:
		left, right := b.exp(n.L[0]), b.exp(n.L[1])
		b.emit(binary(n.S), to, left, right)
	case api.And:
		b.choice(api.OpJumpNot, n.L[0], n.L[1])
	case api.Or:
		b.choice(api.OpJumpIf, n.L[0], n.L[1])
	case api.Make:
		b.table(n.L)
	}
	b.free = to
	return b.take()
}

// literal is what an exp says that is a constant.
func literal(n api.Node) api.Value {
	switch n.K {
	case api.FalseExp, api.TrueExp:
		return value.Bool(n.K == api.TrueExp)
	case api.NumExp:
		return value.Num(n.N)
	case api.TextExp:
		return value.Text(n.S)
	}
	return api.Value{}
}

// load is a register that has a constant.
func (b *builder) load(v api.Value) int {
	reg := b.take()
	b.emit(api.OpConst, reg, b.place(v))
	return reg
}

// name is the constant by which a global variable is found.
func (b *builder) name(n api.Node) int {
	return b.place(value.Text(n.S))
}

// get lets a register have what the variable at a slot has.
func (b *builder) get(to, slot int) {
	v := b.vars[slot]
	if v.shared {
		b.emit(api.OpGetBox, to, v.reg)
	} else {
		b.emit(api.OpMove, to, v.reg)
	}
}

// call: the arguments come to lie right behind what is called.
func (b *builder) call(l []api.Node) {
	called := b.exp(l[0])
	for _, argument := range l[1:] {
		b.exp(argument)
	}
	b.emit(api.OpCall, called, len(l)-1)
}

// choice lets the second value take the first one's register, unless a jump goes over it.
func (b *builder) choice(jump int, first, second api.Node) {
	to := b.exp(first)
	over := b.emit(jump, to)
	b.free = to
	b.exp(second)
	b.land(over)
}

// table makes a table and sets its items one by one. A number is counted behind its item's value: it is paid for as the key is set.
func (b *builder) table(items []api.Node) {
	table := b.take()
	b.emit(api.OpMake, table)
	counted := int64(0)
	for _, item := range items {
		b.within(func() {
			if len(item.L) == 2 {
				key, val := b.exp(item.L[0]), b.exp(item.L[1])
				b.emit(api.OpSetIndex, table, key, val)
				return
			}
			counted++
			val, key := b.exp(item.L[0]), b.load(value.Num(whole.FromInt(counted)))
			b.emit(api.OpSetIndex, table, key, val)
		})
	}
}

// unary is the order of a sign ahead of one.
func unary(sign string) int {
	switch sign {
	case "not":
		return api.OpNot
	case "-":
		return api.OpNeg
	}
	return api.OpLen
}

// binary is the order of a sign between two.
func binary(sign string) int {
	switch sign {
	case "+":
		return api.OpAdd
	case "-":
		return api.OpSub
	case "*":
		return api.OpMul
	case "/":
		return api.OpDiv
	case "%":
		return api.OpMod
	case "..":
		return api.OpConcat
	case "==":
		return api.OpEq
	case "~=":
		return api.OpNe
	case "<":
		return api.OpLt
	case "<=":
		return api.OpLe
	case ">":
		return api.OpGt
	}
	return api.OpGe
}
