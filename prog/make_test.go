package prog_test

import (
	"math"
	"math/rand"
	"strings"

	"minstrel/api"
)

// goodConsts are constants of every kind that can be one.
func goodConsts() []api.Value {
	return []api.Value{
		{K: api.Nil}, {K: api.False}, {K: api.True},
		{K: api.Number}, {K: api.Number, N: 1 << 63}, {K: api.Number, N: 1}, {K: api.Number, N: bits(1)}, {K: api.Number, N: bits(-0.1)},
		{K: api.Number, N: bits(math.Inf(1))}, {K: api.Number, N: bits(math.Inf(-1))}, {K: api.Number, N: 0x7ff8000000000000},
		{K: api.Text}, {K: api.Text, S: "x"}, {K: api.Text, S: "\x00\xff\n"}, {K: api.Text, S: strings.Repeat("long", 20)},
	}
}

// badConsts are values that are no constants: other kinds, and fields that play no part but are there.
func badConsts() []api.Value {
	var all []api.Value
	for _, k := range []int{api.Table, api.Func, api.Co, api.Lib, api.Box, 10, -1, 256, 1 << 32, 1<<32 + api.Text, math.MaxInt, math.MinInt, math.MinInt + 3} {
		all = append(all, api.Value{K: k}, api.Value{K: k, O: 1})
	}
	for _, v := range goodConsts() {
		for _, o := range []int{1, -1, math.MinInt} {
			w := v
			w.O = o
			all = append(all, w)
		}
		if v.K != api.Number {
			w := v
			w.N = 1 << 63
			all = append(all, w)
		}
		if v.K != api.Text {
			w := v
			w.S = "x"
			all = append(all, w)
		}
	}
	for _, n := range []api.Num{0x7ff0000000000001, 0x7ff7ffffffffffff, 0x7ff8000000000001, 0x7fffffffffffffff, 0xfff0000000000001, 0xfff8000000000000, 0xffffffffffffffff} {
		all = append(all, api.Value{K: api.Number, N: n})
	}
	return all
}

func bits(x float64) api.Num { return api.Num(math.Float64bits(x)) }

// maker makes functions by chance, most of which Check takes.
type maker struct {
	r     *rand.Rand
	wrong int // one choice of so many is a wrong one; 0: none
}

// odd are numbers that are mostly wrong wherever they stand.
var odd = []int{-1, -2, 1, 2, 5, 29, 30, 31, 32, 60, 61, 100, 4095, 4096, 4097, 131071, 131072, 131073, 1 << 31, 1 << 32, math.MaxInt, math.MinInt, math.MaxInt - 1, math.MinInt + 1}

// below is a number from 0 on, below n, if there is one, or now and then an odd one.
func (m *maker) below(n int) int {
	if m.wrong > 0 && m.r.Intn(m.wrong) == 0 {
		if m.r.Intn(2) == 0 {
			return n
		}
		return odd[m.r.Intn(len(odd))]
	}
	return m.r.Intn(max(n, 1))
}

// function is one within about, with functions in so many levels within it.
func (m *maker) function(about *api.Proto, levels int) api.Proto {
	var p api.Proto
	p.Regs = m.below(12) + 4
	p.Params = m.below(min(31, max(p.Regs, 0)+1))
	if about != nil {
		p.Ups = m.ups(*about)
	}
	for range m.r.Intn(4) {
		p.Consts = append(p.Consts, m.constant())
	}
	p.Protos = make([]api.Proto, m.r.Intn(levels+1))
	p.Code = make([]api.Instr, m.r.Intn(8)+1)
	for i := range p.Code {
		p.Code[i] = m.order(p)
	}
	p.Code[len(p.Code)-1] = m.last(p)
	for i := range p.Protos {
		p.Protos[i] = m.function(&p, levels-1)
	}
	return p
}

func (m *maker) ups(about api.Proto) []api.Up {
	var ups []api.Up
	for range m.r.Intn(4) {
		u := api.Up{Own: m.r.Intn(2) == 0 || len(about.Ups) == 0}
		u.At = m.below(len(about.Ups))
		if u.Own {
			u.At = m.below(about.Regs)
		}
		ups = append(ups, u)
	}
	return ups
}

func (m *maker) constant() api.Value {
	from := goodConsts()
	if m.wrong > 0 && m.r.Intn(m.wrong) == 0 {
		from = badConsts()
	}
	return from[m.r.Intn(len(from))]
}

// order is an order for which p has all that it needs.
func (m *maker) order(p api.Proto) api.Instr {
	for {
		in := api.Instr{Op: m.r.Intn(38), A: m.below(3), B: m.below(131073), C: m.below(131073)}
		if needs := byNumber[in.Op].operands; len(p.Consts) == 0 && strings.Contains(needs, "K") || len(p.Ups) == 0 && strings.Contains(needs, "U") || len(p.Protos) == 0 && strings.Contains(needs, "F") {
			continue
		}
		limits := map[rune]int{'R': p.Regs, 'K': len(p.Consts), 'U': len(p.Ups), 'O': len(p.Code), 'N': 31, 'F': len(p.Protos)}
		given := []*int{&in.A, &in.B, &in.C}
		for i, letter := range byNumber[in.Op].operands {
			*given[i] = m.below(limits[letter])
		}
		switch in.Op {
		case 32:
			in.B = m.below(min(31, max(p.Regs-in.A, 1)))
		case 36, 37:
			in.A = m.below(p.Regs - 2)
		}
		if m.wrong > 0 && m.r.Intn(m.wrong) == 0 {
			in.Op = []int{-1, 38, 39, 256, math.MinInt, math.MaxInt}[m.r.Intn(6)]
		}
		return in
	}
}

// last is an order behind which no other is needed.
func (m *maker) last(p api.Proto) api.Instr {
	for {
		in := m.order(p)
		if in.Op == 29 || in.Op == 33 || in.Op == 34 || m.wrong > 0 && m.r.Intn(10*m.wrong) == 0 {
			return in
		}
	}
}

// cell makes a cell by chance, of numbers that are mostly small.
func (m *maker) cell(levels int) api.Cell {
	k := m.r.Intn(3)
	if m.r.Intn(30) == 0 {
		k = odd[m.r.Intn(len(odd))]
	}
	c := api.Cell{K: k}
	if k == 0 || m.r.Intn(4) == 0 {
		c.N = uint64(m.below(7))
	}
	if k == 1 || m.r.Intn(8) == 0 {
		c.S = "x"
	}
	if levels > 0 && (k == 2 || m.r.Intn(8) == 0) {
		for range []int{6, 4, 2, 1, 0, 3, 5, 7}[min(m.r.Intn(8), m.r.Intn(8))] {
			c.L = append(c.L, m.cell(levels-1))
		}
	}
	return c
}
