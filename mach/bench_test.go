package mach_test

import (
	"strconv"

	"minstrel/api"
	"minstrel/code"
	"minstrel/comp"
	"minstrel/heap"
	"minstrel/prog"
	"minstrel/value"
	"minstrel/vm"
)

// thing is an object of the bench's own. It has others by pointers, and so no number.
type thing struct {
	kind, state, place int
	script             *string // a function's
	keys, vals, slots  []part
	meta               part
}

// part is a value; what it is an object of, if of any, is told by to alone.
type part struct {
	v  api.Value
	to *thing
}

// bench is a machine by the words of P18.1 to P18.4: its objects lie as things, which are laid into a heap, in quite another order than the machine's, for each command.
type bench struct {
	limit, fuel int
	seed        uint64
	globals     *thing
}

// newBench is New of what New takes.
func newBench(limit, fuel int, seed uint64) *bench {
	b := &bench{limit: limit, fuel: fuel, seed: seed, globals: &thing{kind: api.Table}}
	for n := 0; vm.LibName(n) != ""; n++ {
		b.globals.keys = append(b.globals.keys, part{v: value.Text(vm.LibName(n))})
		b.globals.vals = append(b.globals.vals, part{v: api.Value{K: api.Lib, O: n}})
	}
	return b
}

// parts are all that a thing has, in the order of P18.3.
func (t *thing) parts() []*part {
	var l []*part
	for i := range t.keys {
		l = append(l, &t.keys[i], &t.vals[i])
	}
	l = append(l, &t.meta)
	for i := range t.slots {
		l = append(l, &t.slots[i])
	}
	return l
}

// depth is all things that can be reached from t, each behind all that it has itself, unless that is on its way.
func depth(t *thing, seen map[*thing]int, l []*thing) []*thing {
	if t == nil || seen[t] > 0 {
		return l
	}
	seen[t] = 1
	parts := t.parts()
	for i := len(parts) - 1; i >= 0; i-- {
		l = depth(parts[i].to, seen, l)
	}
	return append(l, t)
}

// breadth is all things that can be reached from t, in the order of P18.3.
func breadth(t *thing) []*thing {
	l := []*thing{t}
	seen := map[*thing]int{t: 1}
	for i := 0; i < len(l); i++ {
		for _, p := range l[i].parts() {
			if p.to != nil && seen[p.to] == 0 {
				seen[p.to] = 1
				l = append(l, p.to)
			}
		}
	}
	return l
}

// exec is Exec.
func (b *bench) exec(script string) api.Reply {
	p, at, e := comp.Script(script)
	if e != api.OK {
		return api.Reply{End: api.BadScript, Text: strconv.Itoa(int(e)) + " " + strconv.Itoa(at)}
	}
	w, scripts := b.world()
	out, e := w.Run(p, b.fuel)
	if e != api.OK {
		panic(e)
	}
	switch out.End {
	case api.Failed:
		return api.Reply{End: api.Failed, Text: value.Show(out.V)}
	case api.Done:
		after := &bench{limit: b.limit, fuel: b.fuel, seed: w.Seed()}
		after.globals = read(w.Heap(), append(scripts, &script), w.Globals(), map[int]*thing{})
		if _, e := code.Encode(after.state()); e != api.OK {
			return api.Reply{End: api.NoRoom}
		}
		*b = *after
		return api.Reply{End: api.Done, Text: value.Show(out.V)}
	}
	return api.Reply{End: out.End}
}

// world lays the things out, and tells whose functions the world has. A script is there once for each function of it.
func (b *bench) world() (*vm.World, []*string) {
	h, e := heap.New(b.limit)
	if e != api.OK {
		panic(e)
	}
	things := depth(b.globals, map[*thing]int{}, nil)
	numbers := map[*thing]int{}
	var progs []api.Proto
	var scripts []*string
	for _, t := range things {
		which := t.state
		if t.kind == api.Func {
			which = len(scripts)
			p, _, _ := comp.Script(*t.script)
			progs, scripts = append(progs, p), append(scripts, t.script)
		}
		if t.kind == api.Table {
			numbers[t], e = h.Table()
		} else {
			numbers[t], e = h.Make(t.kind, which, t.place, len(t.slots))
		}
		if e != api.OK {
			panic(e)
		}
	}
	for _, t := range things {
		b.fill(h, t, numbers)
	}
	w, e := vm.Make(h, numbers[b.globals], progs, b.seed)
	if e != api.OK {
		panic(e)
	}
	return w, scripts
}

// fill lays what a thing has into a heap.
func (b *bench) fill(h *heap.Heap, t *thing, numbers map[*thing]int) {
	in := func(p part) api.Value {
		if p.to != nil {
			return api.Value{K: p.to.kind, O: numbers[p.to]}
		}
		return p.v
	}
	for i, k := range t.keys {
		if e := h.Set(numbers[t], in(k), in(t.vals[i])); e != api.OK {
			panic(e)
		}
	}
	if t.kind == api.Table {
		h.SetMeta(numbers[t], in(t.meta))
	}
	for i, s := range t.slots {
		h.SetSlot(numbers[t], i, in(s))
	}
}

// read is the thing of an object, with all that it has.
func read(h *heap.Heap, scripts []*string, o int, known map[int]*thing) *thing {
	if t := known[o]; t != nil {
		return t
	}
	x, is := h.Object(o)
	if !is {
		panic("no object " + strconv.Itoa(o))
	}
	t := &thing{kind: x.K}
	known[o] = t
	in := func(v api.Value) part {
		if v.K == api.Table || v.K == api.Func || v.K == api.Co || v.K == api.Box {
			return part{to: read(h, scripts, v.O, known)}
		}
		return part{v: v}
	}
	for i, k := range x.Keys {
		t.keys, t.vals = append(t.keys, in(k)), append(t.vals, in(x.Vals[i]))
	}
	t.meta = in(x.Meta)
	for _, v := range x.Slots {
		t.slots = append(t.slots, in(v))
	}
	switch x.K {
	case api.Func:
		t.script, t.place = scripts[x.A], x.B
	case api.Co:
		if x.A != api.Suspended {
			t.state = api.Dead
		}
	}
	return t
}

// state is State by the words of P18.3 and P18.4.
func (b *bench) state() api.Cell {
	things := breadth(b.globals)
	numbers := map[*thing]int{}
	scripts := map[*string]int{}
	var texts, objects []api.Cell
	for i, t := range things {
		numbers[t] = i + 1
		if t.kind != api.Func {
			continue
		}
		if _, met := scripts[t.script]; !met {
			scripts[t.script] = len(texts)
			texts = append(texts, code.Text(*t.script))
		}
	}
	for _, t := range things {
		objects = append(objects, t.cell(numbers, scripts))
	}
	return code.List(nums(b.limit), nums(b.fuel), code.Number(b.seed), code.List(texts...), code.List(objects...))
}

// nums is a cell of a number.
func nums(n int) api.Cell { return code.Number(uint64(n)) }

// cell is an object's, by the words of P18.4.
func (t *thing) cell(numbers map[*thing]int, scripts map[*string]int) api.Cell {
	is := func(p part) api.Cell {
		switch {
		case p.to != nil:
			return code.List(nums(p.to.kind), nums(numbers[p.to]))
		case p.v.K == api.Number:
			return code.List(nums(3), code.Number(uint64(p.v.N)))
		case p.v.K == api.Text:
			return code.List(nums(4), code.Text(p.v.S))
		case p.v.K == api.Lib:
			return code.List(nums(8), nums(p.v.O))
		}
		return code.List(nums(p.v.K))
	}
	var pairs, slots []api.Cell
	for i, k := range t.keys {
		pairs = append(pairs, is(k), is(t.vals[i]))
	}
	for _, s := range t.slots {
		slots = append(slots, is(s))
	}
	l := []api.Cell{nums(t.kind)}
	switch t.kind {
	case 5:
		l = append(l, code.List(pairs...), is(t.meta))
	case 6:
		l = append(l, nums(scripts[t.script]), nums(t.place), code.List(slots...))
	case 7:
		l = append(l, nums(t.state), code.List(slots...))
	case 9:
		l = append(l, code.List(slots...))
	}
	return code.List(l...)
}

// used is how many cells the things take in a heap.
func (b *bench) used() int {
	n := 0
	for _, t := range breadth(b.globals) {
		n += 1 + len(t.keys) + len(t.slots)
	}
	return n
}

// functions are those of a script, without what is within them.
func functions(script string) []api.Proto {
	p, _, e := comp.Script(script)
	if e != api.OK {
		return nil
	}
	return prog.Flat(p)
}
