package vm_test

import (
	"slices"

	"minstrel/api"
	"minstrel/value"
)

// walker does what scripts' trees say, and pays what P17.9 says, without any order: variables are found by their names. Of what scope found it asks only which variables are shared.
type walker struct {
	*bench
	scripts  int
	closures map[int]closure // by objects
}

// closure is what a function knows of the tree.
type closure struct {
	n       api.Node
	in      *names
	script  int
	numbers map[int]int // of the script's FuncExps, by where they stand: the place among its functions
}

// variable is one of the script, in a Box if it is shared.
type variable struct {
	box int
	v   api.Value
}

// names are variables that are there, the innermost first.
type names struct {
	name  string
	v     *variable
	outer *names
}

func (l *names) find(name string) *variable {
	for ; l != nil; l = l.outer {
		if l.name == name {
			return l.v
		}
	}
	return nil
}

// How a statement ends.
type ending int

const (
	goes ending = iota
	breaks
	returns
)

func newWalker(room int, seed uint64) *walker {
	w := &walker{bench: newBench(room, seed), closures: map[int]closure{}}
	w.run = w.function
	return w
}

// script runs a script by the tree that scope tells of it.
func (w *walker) script(n api.Node, fuel int) api.Outcome {
	numbers := map[int]int{}
	for i, f := range functionsOf(n) {
		numbers[f.At] = i + 1
	}
	top := closure{n: n, script: w.scripts, numbers: numbers}
	w.scripts++
	return w.whole(fuel, func() api.Value {
		_, v := walk{w, top}.block(n, nil)
		return v
	})
}

// functionsOf are the FuncExps of a tree in the order of the text.
func functionsOf(n api.Node) []api.Node {
	var all []api.Node
	if n.K == api.FuncExp {
		all = append(all, n)
	}
	for _, part := range n.L {
		all = append(all, functionsOf(part)...)
	}
	return all
}

// walk is a walker in a function.
type walk struct {
	*walker
	f closure
}

// function runs a function's object.
func (m *walker) function(object int, arguments []api.Value) api.Value {
	f := m.closures[object]
	w := walk{m, f}
	in := f.in
	last := len(f.n.L) - 1
	for i, param := range f.n.L[:last] {
		var v api.Value
		if i < len(arguments) {
			v = arguments[i]
		}
		in = w.with(param, v, in)
	}
	_, v := w.block(f.n.L[last], in)
	return v
}

// with lets the variable of a node be there.
func (w walk) with(n api.Node, v api.Value, outer *names) *names {
	one := &variable{v: v}
	if n.B&1 == 1 {
		one.box = w.bench.box(v)
	}
	return &names{n.S, one, outer}
}

func (w walk) set(one *variable, v api.Value) {
	if one.box > 0 {
		w.heap.SetSlot(one.box, 0, v)
	}
	one.v = v
}

func (w walk) block(n api.Node, in *names) (ending, api.Value) {
	for _, stat := range n.L {
		var end ending
		var v api.Value
		if stat.K == api.Local {
			in = w.local(stat, in)
			continue
		}
		if end, v = w.stat(stat, in); end != goes {
			return end, v
		}
	}
	return goes, api.Value{}
}

func (w walk) local(n api.Node, in *names) *names {
	if n.B&2 == 2 {
		in = w.with(n, api.Value{}, in)
		f := w.exp(n.L[0], in)
		w.pay(1)
		w.set(in.v, f)
		return in
	}
	return w.with(n, w.maybe(n.L, in), in)
}

// maybe is the value, if there is one.
func (w walk) maybe(l []api.Node, in *names) api.Value {
	if len(l) == 0 {
		return api.Value{}
	}
	return w.exp(l[0], in)
}

func (w walk) stat(n api.Node, in *names) (ending, api.Value) {
	switch n.K {
	case api.Assign:
		w.assign(n.L[0], n.L[1], in)
	case api.CallStat:
		w.exp(n.L[0], in)
	case api.If:
		if value.Truth(w.exp(n.L[0], in)) {
			return w.block(n.L[1], in)
		}
		return w.block(n.L[2], in)
	case api.While:
		for value.Truth(w.exp(n.L[0], in)) {
			if end, v := w.block(n.L[1], in); end == returns {
				return end, v
			} else if end == breaks {
				break
			}
			w.pay(1)
		}
	case api.For:
		return w.count(n, in)
	case api.Return:
		v := w.maybe(n.L, in)
		w.pay(1)
		return returns, v
	case api.Break:
		return breaks, api.Value{}
	case api.Do:
		return w.block(n.L[0], in)
	}
	return goes, api.Value{}
}

func (w walk) count(n api.Node, in *names) (ending, api.Value) {
	at, to, step := w.exp(n.L[0], in), w.exp(n.L[1], in), w.exp(n.L[2], in)
	w.pay(1)
	if !all(api.Number, at, to, step) || float(step) == 0 {
		w.throw("for")
	}
	for goesOn(at, to, step) {
		if end, v := w.block(n.L[3], w.with(n, at, in)); end == returns {
			return end, v
		} else if end == breaks {
			break
		}
		w.pay(1)
		at = num(float(at) + float(step))
	}
	return goes, api.Value{}
}

func (w walk) assign(to, val api.Node, in *names) {
	if to.K == api.Index {
		t, k := w.exp(to.L[0], in), w.exp(to.L[1], in)
		v := w.exp(val, in)
		w.pay(1)
		w.setIndex(t, k, v)
		return
	}
	v := w.exp(val, in)
	w.pay(1)
	if one := in.find(to.S); one != nil {
		w.set(one, v)
	} else {
		w.setGlobal(value.Text(to.S), v)
	}
}

func (w walk) exp(n api.Node, in *names) api.Value {
	switch n.K {
	case api.And, api.Or:
		v := w.exp(n.L[0], in)
		if value.Truth(v) == (n.K == api.And) {
			return w.exp(n.L[1], in)
		}
		return v
	case api.Make:
		return w.make(n.L, in)
	case api.FuncExp:
		w.pay(1)
		return w.newFunction(n, in)
	}
	var l []api.Value
	for _, part := range n.L {
		l = append(l, w.exp(part, in))
	}
	w.pay(1)
	switch n.K {
	case api.FalseExp:
		return api.Value{K: api.False}
	case api.TrueExp:
		return api.Value{K: api.True}
	case api.NumExp:
		return api.Value{K: api.Number, N: n.N}
	case api.TextExp:
		return api.Value{K: api.Text, S: n.S}
	case api.LocalExp, api.UpExp, api.GlobalExp:
		if one := in.find(n.S); one != nil {
			return one.v
		}
		return w.global(value.Text(n.S))
	case api.Index:
		return w.index(l[0], l[1])
	case api.Call:
		return w.call(l[0], l[1:])
	case api.Un:
		return w.unary(n.S, l[0])
	case api.Bin:
		return w.binary(n.S, l[0], l[1])
	}
	return api.Value{}
}

func (w walk) make(items []api.Node, in *names) api.Value {
	w.pay(1)
	t := w.table()
	counted := 0
	for _, item := range items {
		if len(item.L) == 2 {
			k, v := w.exp(item.L[0], in), w.exp(item.L[1], in)
			w.pay(1)
			w.setIndex(t, k, v)
			continue
		}
		counted++
		v := w.exp(item.L[0], in)
		w.pay(1)
		w.pay(1)
		w.setIndex(t, num(float64(counted)), v)
	}
	return t
}

// newFunction is a function with the Boxes of those variables about it that it names, in the order of the text.
func (w walk) newFunction(n api.Node, in *names) api.Value {
	var boxes []int
	for _, name := range foreign(n, nil) {
		if one := in.find(name); one != nil {
			boxes = append(boxes, one.box)
		}
	}
	o := w.need(w.heap.Make(api.Func, w.f.script, w.f.numbers[n.At], len(boxes)))
	for i, box := range boxes {
		w.heap.SetSlot(o, i, api.Value{K: api.Box, O: box})
	}
	w.closures[o] = closure{n, in, w.f.script, w.f.numbers}
	return api.Value{K: api.Func, O: o}
}

// foreign are the names in a node that are no variables of its own, nor among own, each once.
func foreign(n api.Node, own []string) []string {
	var all []string
	add := func(l []string) {
		for _, name := range l {
			if !slices.Contains(all, name) {
				all = append(all, name)
			}
		}
	}
	own = slices.Clip(own)
	switch n.K {
	case api.LocalExp, api.UpExp, api.GlobalExp:
		if !slices.Contains(own, n.S) {
			add([]string{n.S})
		}
		return all
	case api.For:
		for _, part := range n.L[:3] {
			add(foreign(part, own))
		}
		add(foreign(n.L[3], append(own, n.S)))
		return all
	}
	for _, part := range n.L {
		if part.K == api.Param || part.K == api.Local && part.B&2 == 2 {
			own = append(own, part.S)
		}
		add(foreign(part, own))
		if part.K == api.Local {
			own = append(own, part.S)
		}
	}
	return all
}
