package mach

import (
	"minstrel/api"
	"minstrel/heap"
	"minstrel/vm"
)

// ordered is what of a world can be reached, with new numbers. The scripts are all that the world has, as it counts them.
func ordered(w *vm.World, limit, fuel int, scripts []script) *Machine {
	m := &Machine{limit: limit, fuel: fuel, seed: w.Seed()}
	numbers, had := map[int]int{}, []int{}
	meet := func(v api.Value) api.Value {
		if !isObject(v.K) {
			return v
		}
		n, met := numbers[v.O]
		if !met {
			had = append(had, v.O)
			n = len(had)
			numbers[v.O] = n
		}
		v.O = n
		return v
	}
	meet(api.Value{K: api.Table, O: w.Globals()})
	// Each object that is met has its turn behind those that were met ahead of it.
	for i := 0; i < len(had); i++ {
		o, _ := w.Heap().Object(had[i])
		m.objects = append(m.objects, renumbered(o, meet))
	}
	m.keep(scripts)
	return m
}

// isObject tells the kinds whose number is that of an object.
func isObject(kind int) bool {
	return kind == api.Table || kind == api.Func || kind == api.Co || kind == api.Box
}

// renumbered is an object all of whose values are met, in their order.
func renumbered(o api.Object, meet func(api.Value) api.Value) api.Object {
	for i := range o.Keys {
		o.Keys[i] = meet(o.Keys[i])
		o.Vals[i] = meet(o.Vals[i])
	}
	o.Meta = meet(o.Meta)
	for i, v := range o.Slots {
		o.Slots[i] = meet(v)
	}
	if o.K == api.Co && o.A != api.Suspended {
		o.A = api.Dead
	}
	return o
}

// keep takes those scripts of which there are functions, and gives the functions the scripts' new numbers.
func (m *Machine) keep(scripts []script) {
	numbers := map[int]int{}
	for i := range m.objects {
		o := &m.objects[i]
		if o.K != api.Func {
			continue
		}
		n, met := numbers[o.A]
		if !met {
			n = len(m.scripts)
			numbers[o.A] = n
			m.scripts = append(m.scripts, scripts[o.A])
		}
		o.A = n
	}
}

// world is the machine's world, laid out: an error, if it hasn't the room, or isn't one at all.
func (m *Machine) world() (*vm.World, api.Errno) {
	h, e := heap.New(m.limit)
	if e != api.OK {
		return nil, e
	}
	// All are there ahead of what they have, since they may have one another.
	for _, o := range m.objects {
		if e := lay(h, o); e != api.OK {
			return nil, e
		}
	}
	for i, o := range m.objects {
		if e := fill(h, i+1, o); e != api.OK {
			return nil, e
		}
	}
	var functions []api.Proto
	for _, s := range m.scripts {
		functions = append(functions, s.function)
	}
	return vm.Make(h, 1, functions, m.seed)
}

// lay makes an object that has nothing yet.
func lay(h *heap.Heap, o api.Object) api.Errno {
	if o.K == api.Table {
		_, e := h.Table()
		return e
	}
	_, e := h.Make(o.K, o.A, o.B, len(o.Slots))
	return e
}

// fill lets the object with number n have all that o has.
func fill(h *heap.Heap, n int, o api.Object) api.Errno {
	for i, k := range o.Keys {
		if e := h.Set(n, k, o.Vals[i]); e != api.OK {
			return e
		}
	}
	for i, v := range o.Slots {
		if e := h.SetSlot(n, i, v); e != api.OK {
			return e
		}
	}
	if o.K == api.Table {
		return h.SetMeta(n, o.Meta)
	}
	return api.OK
}
