package scope_test

import (
	"math/rand"
	"strconv"

	"minstrel/api"
)

// maker makes trees of parse's form by chance, each node at a place of its own.
type maker struct {
	r      *rand.Rand
	names  int // of how many names
	locals int // how likely a statement is a Local: so many of ten
	breaks bool
	at     int
	loops  int
}

func (m *maker) node(k int, l ...api.Node) api.Node {
	m.at += 3
	return api.Node{K: k, At: m.at, L: l}
}

// named is a node with a name, and parts that are made behind it.
func (m *maker) named(k int, parts ...func() api.Node) api.Node {
	n := m.node(k)
	n.S = "v" + strconv.Itoa(m.r.Intn(m.names))
	for _, part := range parts {
		n.L = append(n.L, part())
	}
	return n
}

// with is a node with parts that are made behind it.
func (m *maker) with(k int, parts ...func() api.Node) api.Node {
	n := m.node(k)
	for _, part := range parts {
		n.L = append(n.L, part())
	}
	return n
}

func (m *maker) block(room int) api.Node {
	n := m.node(api.Block)
	for range m.r.Intn(6) {
		if room > 0 {
			n.L = append(n.L, m.stat(room-1))
		}
	}
	if m.r.Intn(3) == 0 {
		n.L = append(n.L, m.returned(room))
	}
	return n
}

func (m *maker) returned(room int) api.Node {
	if m.r.Intn(3) == 0 {
		return m.node(api.Return)
	}
	return m.with(api.Return, func() api.Node { return m.exp(room - 1) })
}

func (m *maker) stat(room int) api.Node {
	exp := func() api.Node { return m.exp(room) }
	block := func() api.Node { return m.block(room) }
	looped := func() api.Node {
		m.loops++
		defer func() { m.loops-- }()
		return m.block(room)
	}
	if m.r.Intn(10) < m.locals {
		return m.local(room)
	}
	switch m.r.Intn(9) {
	case 0:
		return m.local(room)
	case 1:
		return m.with(api.If, exp, block, block)
	case 2:
		return m.with(api.While, exp, looped)
	case 3:
		return m.named(api.For, exp, exp, exp, looped)
	case 4:
		return m.with(api.Do, block)
	case 5:
		return m.with(api.CallStat, func() api.Node { return m.call(room) })
	case 6:
		if m.loops > 0 || m.breaks {
			return m.node(api.Break)
		}
	case 7:
		return m.with(api.Assign, func() api.Node { return m.with(api.Index, exp, exp) }, exp)
	}
	return m.with(api.Assign, func() api.Node { return m.named(api.NameExp) }, exp)
}

func (m *maker) local(room int) api.Node {
	switch m.r.Intn(3) {
	case 0:
		n := m.named(api.Local, func() api.Node { return m.function(room) })
		n.A = 1
		return n
	case 1:
		return m.named(api.Local, func() api.Node { return m.exp(room) })
	}
	return m.named(api.Local)
}

func (m *maker) call(room int) api.Node {
	n := m.with(api.Call, func() api.Node { return m.exp(room) })
	for range m.r.Intn(3) {
		n.L = append(n.L, m.exp(room))
	}
	return n
}

func (m *maker) function(room int) api.Node {
	loops := m.loops
	m.loops = 0
	n := m.node(api.FuncExp)
	for range m.r.Intn(3) {
		n.L = append(n.L, m.named(api.Param))
	}
	n.L = append(n.L, m.block(room))
	m.loops = loops
	return n
}

func (m *maker) exp(room int) api.Node {
	if room <= 0 {
		return m.leaf()
	}
	exp := func() api.Node { return m.exp(room - 1) }
	switch m.r.Intn(12) {
	case 0, 1, 2:
		return m.function(room - 1)
	case 3:
		n := m.with(api.Bin, exp, exp)
		n.S = []string{"<", ">", "<=", ">=", "~=", "==", "..", "+", "-", "*", "/", "%"}[m.r.Intn(12)]
		return n
	case 4:
		n := m.with(api.Un, exp)
		n.S = []string{"not", "-", "#"}[m.r.Intn(3)]
		return n
	case 5:
		return m.with([]int{api.And, api.Or, api.Index}[m.r.Intn(3)], exp, exp)
	case 6:
		n := m.node(api.Make)
		for range m.r.Intn(3) {
			if m.r.Intn(2) == 0 {
				n.L = append(n.L, m.with(api.Item, exp))
			} else {
				n.L = append(n.L, m.with(api.Item, exp, exp))
			}
		}
		return n
	case 7:
		return m.call(room - 1)
	}
	return m.leaf()
}

func (m *maker) leaf() api.Node {
	if m.r.Intn(4) > 0 {
		return m.named(api.NameExp)
	}
	n := m.node(api.NilExp + m.r.Intn(5))
	switch n.K {
	case api.NumExp:
		n.N = api.Num(m.r.Uint64())
	case api.TextExp:
		n.S = "v0"
	}
	return n
}

// many is a tree by which functions get near their limits: blocks of many Locals, functions that name many.
func (m *maker) many(room int) api.Node {
	n := m.node(api.Block)
	for range 1 + m.r.Intn(3) {
		for range m.r.Intn(75) {
			n.L = append(n.L, m.named(api.Local))
		}
		exp := func() api.Node { return m.leaf() }
		inner := func() api.Node {
			if room > 0 {
				return m.many(room - 1)
			}
			return m.block(2)
		}
		function := func() api.Node {
			f := m.node(api.FuncExp)
			for range m.r.Intn(30) {
				f.L = append(f.L, m.named(api.Param))
			}
			b := inner()
			for range m.r.Intn(40) {
				b.L = append([]api.Node{m.with(api.Assign, func() api.Node { return m.named(api.NameExp) }, exp)}, b.L...)
			}
			f.L = append(f.L, b)
			return f
		}
		switch m.r.Intn(5) {
		case 0:
			n.L = append(n.L, m.with(api.Do, inner))
		case 1:
			n.L = append(n.L, m.named(api.For, exp, exp, exp, inner))
		default:
			n.L = append(n.L, m.named(api.Local, function))
		}
	}
	return n
}
