package comp

import "minstrel/api"

// What scope tells by the B of a node that has a variable.
const (
	isShared = 1 // functions within share it
	isMarked = 2 // it is that of a local function
)

func (b *builder) block(n api.Node) {
	b.within(func() {
		for _, stat := range n.L {
			b.stat(stat)
		}
	})
}

// within does what lies within something, behind which its variables are gone and its registers free.
func (b *builder) within(do func()) {
	free, there := b.free, len(b.vars)
	do()
	b.free, b.vars = free, b.vars[:there]
}

// stat makes the orders of a statement. Only the variable of a Local is there behind it.
func (b *builder) stat(n api.Node) {
	if n.K == api.Local {
		b.local(n)
		return
	}
	b.within(func() {
		switch n.K {
		case api.Assign:
			b.assign(n.L[0], n.L[1])
		case api.CallStat:
			b.exp(n.L[0])
		case api.If:
			b.branch(n.L[0], n.L[1], n.L[2])
		case api.While:
			b.while(n.L[0], n.L[1])
		case api.For:
			b.count(n)
		case api.Return:
			b.emit(api.OpReturn, b.some(n.L))
		case api.Break:
			b.breaks = append(b.breaks, b.emit(api.OpJump))
		case api.Do:
			b.block(n.L[0])
		}
	})
}

// some is a register with the value, if there is one, else with Nil.
func (b *builder) some(l []api.Node) int {
	if len(l) > 0 {
		return b.exp(l[0])
	}
	reg := b.take()
	b.emit(api.OpClear, reg)
	return reg
}

func (b *builder) local(n api.Node) {
	if n.B&isMarked == 0 {
		b.add(n, b.some(n.L))
		return
	}
	// The function may share the variable, which so has to be there ahead of it.
	reg := b.some(nil)
	b.add(n, reg)
	b.set(n.A, b.exp(n.L[0]))
	b.free = reg + 1
}

// set lets the variable at a slot have what a register has.
func (b *builder) set(slot, from int) {
	v := b.vars[slot]
	if v.shared {
		b.emit(api.OpSetBox, v.reg, from)
	} else {
		b.emit(api.OpMove, v.reg, from)
	}
}

func (b *builder) assign(to, val api.Node) {
	switch to.K {
	case api.LocalExp:
		b.set(to.A, b.exp(val))
	case api.UpExp:
		b.emit(api.OpSetUp, to.A, b.exp(val))
	case api.GlobalExp:
		from := b.exp(val)
		b.emit(api.OpSetGlobal, b.name(to), from)
	case api.Index:
		table, key := b.exp(to.L[0]), b.exp(to.L[1])
		b.emit(api.OpSetIndex, table, key, b.exp(val))
	}
}

func (b *builder) branch(cond, then, other api.Node) {
	skip := b.unless(cond)
	b.block(then)
	out := b.emit(api.OpJump)
	b.land(skip)
	b.block(other)
	b.land(out)
}

// unless is a jump that is made if cond doesn't hold.
func (b *builder) unless(cond api.Node) int {
	var jump int
	b.within(func() { jump = b.emit(api.OpJumpNot, b.exp(cond)) })
	return jump
}

// loop makes a loop's inside, and lets its breaks go on behind it.
func (b *builder) loop(inside func()) {
	outer := b.breaks
	b.breaks = nil
	inside()
	b.land(b.breaks...)
	b.breaks = outer
}

// while: the jump back is the one that costs, each time that the loop goes round.
func (b *builder) while(cond, block api.Node) {
	b.loop(func() {
		start := len(b.Code)
		out := b.unless(cond)
		b.block(block)
		b.emit(api.OpJump, start)
		b.land(out)
	})
}

// count makes a For. What it counts with lies apart from its variable, which is another one each time, and may be assigned to.
func (b *builder) count(n api.Node) {
	from := b.exp(n.L[0])
	b.exp(n.L[1])
	b.exp(n.L[2])
	b.loop(func() {
		out := b.emit(api.OpForCheck, from)
		start := len(b.Code)
		reg := b.take()
		b.emit(api.OpShift, reg, from)
		b.add(n, reg)
		b.block(n.L[3])
		b.emit(api.OpForStep, from, start)
		b.land(out)
	})
}
