package scope_test

import (
	"cmp"
	"slices"

	"minstrel/api"
)

// span is a stretch of a tree, as it is gone through: from one step to behind another.
type span struct{ from, to int }

func (s span) holds(step int) bool {
	return s.from < step && step < s.to
}

// variable is one of a tree: where it is there, and whose.
type variable struct {
	span
	node     int // the number of its node, as numbered
	at       int
	name     string
	function int
}

// use is a name, a Break, a loop's block or a function of a tree.
type use struct {
	span
	node, at int
	name     string
	function int // in which it is
}

// told is a fault, and at which step it is met.
type told struct {
	step, at int
	err      api.Errno
}

// model tells a tree's variables by where each of them is there, with no frames: nodes are numbered as they are met, functions from 0 on, the script being 0.
type model struct {
	step, node int
	variables  []variable
	names      []use
	breaks     []use
	loops      []use
	functions  []use
	slots      []int // of each variable
	which      []int // variable each name is, or -1
}

func newModel(n api.Node) *model {
	m := &model{functions: []use{{span: span{-1, 1 << 40}, node: -1, function: -1}}}
	m.walk(n, 0, nil)
	for _, v := range m.variables {
		m.slots = append(m.slots, m.slot(v))
	}
	for _, name := range m.names {
		m.which = append(m.which, m.variable(name))
	}
	return m
}

func (m *model) tick() int {
	m.step++
	return m.step
}

// walk notes what a node and its parts are; block has the numbers of the variables of the block in which it is.
func (m *model) walk(n api.Node, function int, block *[]int) {
	id := m.node
	m.node++
	add := func(to *[]int) {
		*to = append(*to, len(m.variables))
		m.variables = append(m.variables, variable{span{m.tick(), 0}, id, n.At, n.S, function})
	}
	end := func(of []int) {
		to := m.tick()
		for _, v := range of {
			m.variables[v].to = to
		}
	}
	var own []int
	switch n.K {
	case api.NameExp:
		m.names = append(m.names, use{span{m.tick(), 0}, id, n.At, n.S, function})
		return
	case api.Break:
		m.breaks = append(m.breaks, use{span{m.tick(), 0}, id, n.At, "", function})
		return
	case api.Param:
		add(block)
		return
	case api.Local:
		if n.A == 1 {
			add(block)
			m.walk(n.L[0], function, block)
			return
		}
		for _, part := range n.L {
			m.walk(part, function, block)
		}
		add(block)
		return
	case api.FuncExp:
		inner := len(m.functions)
		m.functions = append(m.functions, use{span{m.tick(), 0}, id, n.At, "", function})
		for _, part := range n.L {
			m.walk(part, inner, &own)
		}
		end(own)
		m.functions[inner].to = m.tick()
		return
	case api.Block:
		for _, part := range n.L {
			m.walk(part, function, &own)
		}
		end(own)
		return
	}
	for i, part := range n.L {
		last := i == len(n.L)-1
		if n.K == api.For && last {
			add(&own)
		}
		from := m.tick()
		m.walk(part, function, block)
		if (n.K == api.For || n.K == api.While) && last {
			m.loops = append(m.loops, use{span{from, m.tick()}, id, n.At, "", function})
			end(own)
		}
	}
}

// slot is how many variables of the same function are there where this one comes.
func (m *model) slot(v variable) int {
	count := 0
	for _, o := range m.variables {
		if o.function == v.function && o.holds(v.from) {
			count++
		}
	}
	return count
}

// variable is which one a name is, or -1: of those that are there the one that came last.
func (m *model) variable(name use) int {
	best := -1
	for v, o := range m.variables {
		if o.name == name.name && o.holds(name.from) && (best < 0 || m.variables[best].from < o.from) {
			best = v
		}
	}
	return best
}

// ups are the variables that a function has from those about it, and the names by which each of them is met first.
func (m *model) ups(function int) ([]int, []use) {
	var ups []int
	var by []use
	f := m.functions[function]
	for i, name := range m.names {
		if v := m.which[i]; v >= 0 && f.holds(name.from) && !f.holds(m.variables[v].from) && !slices.Contains(ups, v) {
			ups = append(ups, v)
			by = append(by, name)
		}
	}
	return ups, by
}

// faults are all of a tree, the first first.
func (m *model) faults() []told {
	var l []told
	for _, b := range m.breaks {
		if !slices.ContainsFunc(m.loops, func(o use) bool { return o.function == b.function && o.holds(b.from) }) {
			l = append(l, told{b.from, b.at, api.ErrState})
		}
	}
	for v, o := range m.variables {
		if m.slots[v] >= 200 {
			l = append(l, told{o.from, o.at, api.ErrLong})
		}
	}
	for f := range m.functions {
		if _, by := m.ups(f); len(by) > 60 {
			l = append(l, told{by[60].from, by[60].at, api.ErrLong})
		}
	}
	slices.SortFunc(l, func(a, b told) int { return cmp.Compare(a.step, b.step) })
	return l
}

// finding is what is to be found of a node.
type finding struct {
	k, a, b int
	ups     []api.Up
}

// findings are those of all nodes, by their numbers.
func (m *model) findings() map[int]finding {
	found := map[int]finding{}
	shared := map[int]int{}
	all := map[int][]int{}
	for f := range m.functions {
		all[f], _ = m.ups(f)
		for _, v := range all[f] {
			shared[v] = 1
		}
	}
	for v, o := range m.variables {
		found[o.node] = finding{a: m.slots[v], b: shared[v]}
	}
	for f, o := range m.functions {
		var ups []api.Up
		for _, v := range all[f] {
			if m.variables[v].function == o.function {
				ups = append(ups, api.Up{Own: true, At: m.slots[v]})
			} else {
				ups = append(ups, api.Up{At: slices.Index(all[o.function], v)})
			}
		}
		found[o.node] = finding{ups: ups}
	}
	for i, name := range m.names {
		v := m.which[i]
		switch {
		case v < 0:
			found[name.node] = finding{k: api.GlobalExp}
		case m.variables[v].function == name.function:
			found[name.node] = finding{k: api.LocalExp, a: m.slots[v]}
		default:
			found[name.node] = finding{k: api.UpExp, a: slices.Index(all[name.function], v)}
		}
	}
	return found
}

// answer is what Find is to answer of a tree of parse's form.
func answer(n api.Node) (api.Node, int, api.Errno) {
	m := newModel(n)
	if l := m.faults(); len(l) > 0 {
		return api.Node{}, l[0].at, l[0].err
	}
	found := m.findings()
	next := 0
	var put func(n api.Node) api.Node
	put = func(n api.Node) api.Node {
		o := found[next]
		next++
		switch n.K {
		case api.NameExp:
			n.K, n.A = o.k, o.a
		case api.FuncExp:
			n.A, n.Ups = len(n.L)-1, o.ups
		case api.Local:
			n.A, n.B = o.a, o.b+2*n.A
		case api.For, api.Param:
			n.A, n.B = o.a, o.b
		}
		l := make([]api.Node, len(n.L))
		for i, part := range n.L {
			l[i] = put(part)
		}
		n.L = l
		return n
	}
	return put(n), 0, api.OK
}
