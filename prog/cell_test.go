package prog_test

import (
	"math"
	"math/rand"
	"testing"

	"minstrel/api"
	"minstrel/code"
	"minstrel/prog"
)

// mustRead: FromCell answers as the words say.
func mustRead(t *testing.T, c api.Cell, what ...any) api.Errno {
	t.Helper()
	p, e := prog.FromCell(c)
	want, wantE := fromByWords(c)
	if e != wantE || !alike(p, want) {
		t.Fatalf("%v: %v, %d, want %v, %d", what, p, e, want, wantE)
	}
	return e
}

// small is a script with a bit of everything, and functions within functions.
func small() api.Proto {
	in := api.Proto{Params: 1, Regs: 3, Ups: []api.Up{{Own: true, At: 1}}, Code: []api.Instr{{Op: api.OpGetUp, A: 2, B: 0, C: 5}, {Op: api.OpReturn, A: 2, B: 131072, C: 131072}}}
	deeper := api.Proto{Regs: 1, Ups: []api.Up{{At: 0}, {Own: true, At: 2}}, Code: []api.Instr{{Op: api.OpSetUp, A: 1}, {Op: api.OpEnd}}}
	in.Protos = []api.Proto{deeper}
	return api.Proto{
		Params: 2, Regs: 5,
		Code:   []api.Instr{{Op: api.OpConst, A: 1, B: 4}, {Op: api.OpClosure, A: 0, B: 1}, {Op: api.OpCall, A: 1, B: 3}, {Op: api.OpForStep, A: 2, B: 1}, {Op: api.OpJump, A: 4, B: 7, C: 9}},
		Consts: []api.Value{{}, {K: api.False}, {K: api.True}, {K: api.Number, N: bits(-1.5)}, {K: api.Text, S: "text"}},
		Protos: []api.Proto{in, named("other")},
	}
}

// P13.2: ToCell of all parts.
func TestToCell(t *testing.T) {
	end := many(num(34), num(0), num(0), num(0))
	deeper := many(num(0), num(1), many(many(num(0), num(0)), many(num(1), num(2))), many(many(num(8), num(1), num(0), num(0)), end), many(), many())
	in := many(num(1), num(3), many(many(num(1), num(1))), many(many(num(7), num(2), num(0), num(5)), many(num(33), num(2), num(131072), num(131072))), many(), many(deeper))
	other := many(num(0), num(1), many(), many(many(num(3), num(0), num(0), num(0)), end), many(many(num(4), text("other"))), many())
	want := many(num(2), num(5), many(),
		many(many(num(0), num(1), num(4), num(0)), many(num(35), num(0), num(1), num(0)), many(num(32), num(1), num(3), num(0)), many(num(37), num(2), num(1), num(0)), many(num(29), num(4), num(7), num(9))),
		many(many(num(0)), many(num(1)), many(num(2)), many(num(3), api.Cell{N: 0xbff8000000000000}), many(num(4), text("text"))),
		many(in, other))
	if c := prog.ToCell(small()); !alikeCells(c, want) {
		t.Errorf("%v, want %v", c, want)
	}
	if e := mustRead(t, want); e != api.OK {
		t.Error(e)
	}
	p := api.Proto{Params: -1, Regs: math.MinInt, Ups: []api.Up{{At: -2}}, Code: []api.Instr{{Op: -1, A: -3, B: math.MaxInt, C: math.MinInt}}, Consts: badConsts()}
	if c := prog.ToCell(p); !alikeCells(c, cellByWords(p)) || c.L[0].N != 1<<64-1 || c.L[1].N != 1<<63 || c.L[3].L[0].L[3].N != 1<<63 {
		t.Error(c)
	}
	odd := many(num(0), num(0), many(), many(), many(many(num(5)), many(num(-1)), many(num(3), api.Cell{N: 0xfff8000000000001}), many(num(4), text("t"))), many())
	if c := prog.ToCell(api.Proto{Consts: []api.Value{{K: 5, N: 1, S: "s", O: 7}, {K: -1}, {K: 3, N: 0xfff8000000000001, S: "s"}, {K: 4, N: 9, S: "t", O: 3}}}); !alikeCells(c, odd) {
		t.Error(c)
	}
}

// P13.2, P13.3: there and back, of functions by chance, sound or not; the cell's bytes may lie between.
func TestThereAndBack(t *testing.T) {
	for _, wrong := range []int{0, 50, 300} {
		m := maker{rand.New(rand.NewSource(int64(wrong + 7))), wrong}
		for range 2000 {
			p := m.function(nil, 3)
			c := prog.ToCell(p)
			if !alikeCells(c, cellByWords(p)) {
				t.Fatal(p)
			}
			e := mustRead(t, c, p)
			q, _ := prog.FromCell(c)
			if checkByWords(p) == api.OK && smallByWords(p) && (e != api.OK || !alike(p, q)) || wrong == 0 && e != api.OK {
				t.Fatal(p, e)
			}
			if b, e := code.Encode(c); e == api.OK {
				c, _ = code.Decode(b)
				mustRead(t, c, p)
			}
		}
	}
}

// P13.3: there and back at the limits.
func TestGreatThereAndBack(t *testing.T) {
	p := full(0)
	p.Protos = []api.Proto{full(60)}
	for _, q := range []api.Proto{p, chain(101), crowd(4096, nil), crowd(4096, rand.New(rand.NewSource(3)))} {
		if r, e := prog.FromCell(prog.ToCell(q)); e != api.OK || !alike(r, q) {
			t.Error(e)
		}
	}
	p.Protos[0].Consts = append(p.Protos[0].Consts, api.Value{})
	for _, q := range []api.Proto{p, full(60), full(61), chain(102), crowd(4097, nil), crowd(4097, rand.New(rand.NewSource(3)))} {
		if r, e := prog.FromCell(prog.ToCell(q)); e != api.ErrForm || !alike(r, api.Proto{}) {
			t.Error(e)
		}
	}
}

// P13.2: operands from 0 to MaxCode, also those that play no part.
func TestCellOperands(t *testing.T) {
	for _, r := range byNumber {
		for i := range 3 {
			for _, x := range append(edges(131072), 131071, 131072, 131073) {
				for in := range 2 {
					order := []int{r.op, 0, 0, 0}
					order[i+1] = x
					p := shell(api.Instr{Op: order[0], A: order[1], B: order[2], C: order[3]})
					if in > 0 {
						p.Ups = []api.Up{{Own: true}}
					}
					e := mustRead(t, prog.ToCell(deep(p, in)), order)
					hasUps := in > 0 || r.name != "getup" && r.name != "setup"
					if hasUps && i >= len(r.operands) && (e == api.OK) != (x >= 0 && x <= 131072) {
						t.Error(order, e)
					}
				}
			}
		}
	}
}

// changes are cells that are almost c.
func changes(c api.Cell) []api.Cell {
	var all []api.Cell
	add := func(change func(d *api.Cell)) {
		d := tidyCell(c)
		change(&d)
		all = append(all, d)
	}
	for _, k := range []int{0, 1, 2, 3, -1, 256, 258, math.MinInt} {
		add(func(d *api.Cell) { d.K = k })
	}
	if c.K == api.CellNumber {
		for _, n := range []uint64{0, 1, 2, 3, 4, 5, 6, 7, 29, 30, 31, 37, 38, 4095, 4096, 4097, 131071, 131072, 131073, 1 << 31, 1 << 32, 1<<32 + 1, 1 << 63, 1<<63 + 1, 1<<64 - 1, 0x7ff8000000000000, 0x7ff8000000000001, c.N + 1, c.N - 1, c.N + 1<<32, c.N + 1<<63, -c.N} {
			add(func(d *api.Cell) { d.N = n })
		}
	}
	if c.K == api.CellText {
		for _, s := range []string{"", "x", c.S + "\x00"} {
			add(func(d *api.Cell) { d.S = s })
		}
	}
	if c.K == api.CellList {
		for _, more := range []api.Cell{num(0), num(1), text(""), many(), many(num(0)), many(num(34), num(0), num(0), num(0)), {K: 3}} {
			add(func(d *api.Cell) { d.L = append(d.L, more) })
			add(func(d *api.Cell) { d.L = append([]api.Cell{more}, d.L...) })
		}
		add(func(d *api.Cell) { d.L = nil })
	}
	if c.K == api.CellList && len(c.L) > 0 {
		add(func(d *api.Cell) { d.L = d.L[1:] })
		add(func(d *api.Cell) { d.L = d.L[:len(d.L)-1] })
		add(func(d *api.Cell) { d.L = append(d.L, d.L[len(d.L)-1]) })
		add(func(d *api.Cell) { d.L[0], d.L[len(d.L)-1] = d.L[len(d.L)-1], d.L[0] })
	}
	return append(all, num(0), num(1), text(""), text("x"), many(), many(c), many(num(4), text("x")))
}

// everyChange hands on c with each of its parts changed in each way.
func everyChange(c api.Cell, hand func(api.Cell)) {
	for _, d := range changes(c) {
		hand(d)
	}
	for i := range c.L {
		everyChange(c.L[i], func(d api.Cell) {
			e := tidyCell(c)
			e.L[i] = d
			hand(e)
		})
	}
}

// P13.2: FromCell of cells that are almost what ToCell tells: each part changed in each way.
func TestAlmost(t *testing.T) {
	counts := map[api.Errno]int{}
	everyChange(cellByWords(small()), func(c api.Cell) {
		counts[mustRead(t, c, c)]++
	})
	if counts[api.OK] < 100 || counts[api.ErrForm] < 1000 {
		t.Error(counts)
	}
}

// P13.2: a few such cells by name.
func TestNoForm(t *testing.T) {
	lay := func(c api.Cell, d api.Cell, path ...int) api.Cell {
		c = tidyCell(c)
		at := &c
		for _, i := range path {
			at = &at.L[i]
		}
		*at = d
		return c
	}
	c := cellByWords(small())
	for i, d := range []api.Cell{
		{}, {K: 1}, {K: 2}, {K: 3}, num(5), text("x"),
		many(c.L[:5]...), many(append(tidyCell(c).L, num(0))...),
		lay(c, text("2"), 0), lay(c, num(31), 0), lay(c, num(-1), 0), lay(c, num(-1), 1),
		lay(c, many(many(num(1), num(0))), 2),                  // the whole script has an up
		lay(c, num(2), 5, 0, 2, 0, 0),                          // Own is neither 1 nor 0
		lay(c, num(-1), 5, 0, 2, 0, 0),                         // likewise
		lay(c, num(5), 5, 0, 2, 0, 1),                          // there is no such register
		lay(c, many(num(1)), 5, 0, 2, 0),                       // an up of one number
		lay(c, many(num(1), num(1), num(0)), 5, 0, 2, 0),       // and of three
		lay(c, many(num(29), num(4), num(7)), 3, 4),            // an order of three
		lay(c, many(), 3),                                      // no order
		lay(c, num(38), 3, 0, 0),                               // none
		lay(c, many(), 4, 0),                                   // a constant without a kind
		lay(c, many(text("")), 4, 0),                           // its kind is a text
		lay(c, many(num(0), num(0)), 4, 0),                     // Nil with a number
		lay(c, many(num(1), text("")), 4, 1),                   // False with a text
		lay(c, many(num(3)), 4, 3),                             // a Number without its bits
		lay(c, many(num(3), text("1")), 4, 3),                  // with a text
		lay(c, many(num(3), num(-1)), 4, 3),                    // a NaN that is not the one
		lay(c, many(num(3), num(1), num(0)), 4, 3),             // with one more
		lay(c, many(num(4)), 4, 4),                             // a Text without it
		lay(c, many(num(4), num(1)), 4, 4),                     // with a number
		lay(c, many(num(4), text("x"), text("y")), 4, 4),       // with two
		lay(c, many(num(5)), 4, 0), lay(c, many(num(8)), 4, 0), // a table, a built-in function
		lay(c, many(num(1<<32)), 4, 0), lay(c, many(num(-1)), 4, 0),
		lay(c, num(0), 5), lay(c, many(num(0)), 5), lay(c, many(many()), 5),
	} {
		if p, e := prog.FromCell(d); e != api.ErrForm || !alike(p, api.Proto{}) {
			t.Error(i, p, e)
		}
	}
}

// P13.2: a cell's fields that its kind doesn't name play no part (P7.1).
func TestOtherFields(t *testing.T) {
	var dress func(c api.Cell) api.Cell
	dress = func(c api.Cell) api.Cell {
		d := api.Cell{K: c.K, N: 7, S: "other", L: []api.Cell{num(1)}}
		switch c.K {
		case api.CellNumber:
			d.N = c.N
		case api.CellText:
			d.S = c.S
		case api.CellList:
			d.L = nil
			for _, part := range c.L {
				d.L = append(d.L, dress(part))
			}
		}
		return d
	}
	if p, e := prog.FromCell(dress(cellByWords(small()))); e != api.OK || !alike(p, small()) {
		t.Error(p, e)
	}
}

// P13.2: any cell at all.
func TestAnyCell(t *testing.T) {
	m := maker{rand.New(rand.NewSource(9)), 30}
	for range 100000 {
		mustRead(t, m.cell(6))
	}
}
