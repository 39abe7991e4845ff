package prog_test

import (
	"math"
	"math/rand"
	"slices"
	"strings"
	"testing"

	"minstrel/api"
	"minstrel/prog"
)

// edges are numbers about n, and some that are far away.
func edges(n int) []int {
	return []int{math.MinInt, math.MinInt + 1, -1 << 32, -3, -2, -1, 0, 1, 2, n - 3, n - 2, n - 1, n, n + 1, n + 2, 1 << 31, 1 << 32, 1<<32 + 1, math.MaxInt - 31, math.MaxInt - 2, math.MaxInt - 1, math.MaxInt}
}

// shell is a function with 7 registers, 5 constants, 4 orders and 3 functions within, whose order number 1 is this one.
func shell(in api.Instr) api.Proto {
	p := named("shell", named("x"), named("y"), named("z"))
	p.Regs = 7
	p.Consts = goodConsts()[:5]
	p.Code = []api.Instr{{Op: api.OpClear}, in, {Op: api.OpClear}, {Op: api.OpEnd}}
	return p
}

// deep lays p within so many functions, in the one about it behind another, in those about that one alone.
func deep(p api.Proto, in int) api.Proto {
	for i := range in {
		p = named("about", p)
		if i == 0 {
			p.Protos = append([]api.Proto{named("ahead")}, p.Protos...)
		}
	}
	return p
}

// mustCheck: Check answers so.
func mustCheck(t *testing.T, p api.Proto, want api.Errno, what ...any) {
	t.Helper()
	if e := prog.Check(p); e != want {
		t.Errorf("%v: %d, want %d", what, e, want)
	}
}

// P13.1: each operand of each order, on both sides of its range, in the whole script and in functions within.
func TestOperands(t *testing.T) {
	limits := map[byte]int{'R': 7, 'K': 5, 'O': 4, 'N': 6, 'F': 3, 'U': 2}
	for _, r := range byNumber {
		for in := range 4 {
			for i := range 3 {
				limit := math.MaxInt
				if i < len(r.operands) {
					limit = limits[r.operands[i]]
				}
				if i == 0 && (r.name == "forcheck" || r.name == "forstep") {
					limit = 5
				}
				for _, x := range edges(limit) {
					order := []int{r.op, 1, 1, 1}
					order[i+1] = x
					want := api.OK
					if i < len(r.operands) && (x < 0 || x >= limit) || r.name == "call" && i == 0 && x >= 6 {
						want = api.ErrArg
					}
					p := shell(api.Instr{Op: order[0], A: order[1], B: order[2], C: order[3]})
					if in > 0 {
						p.Ups = []api.Up{{Own: true}, {Own: true}}
					} else if r.name == "getup" || r.name == "setup" {
						want = api.ErrArg
					}
					mustCheck(t, deep(p, in), want, order, in)
				}
			}
		}
	}
}

// P13.1: of call A and B together are below Regs, and B is at most MaxArgs.
func TestCall(t *testing.T) {
	for _, regs := range []int{1, 2, 5, 30, 31, 32, 33, 40, 4096} {
		for _, a := range append(edges(regs), 3, 4, 5, 8, 9, 10, regs-30, regs-31, regs-32) {
			for b := -3; b < 36; b++ {
				p := api.Proto{Regs: regs, Code: []api.Instr{{Op: api.OpCall, A: a, B: b}, {Op: api.OpEnd}}}
				want := api.ErrArg
				if a >= 0 && a < regs && b >= 0 && b <= 30 && a+b < regs {
					want = api.OK
				}
				mustCheck(t, p, want, regs, a, b)
			}
		}
	}
	for _, b := range edges(31) {
		for _, a := range []int{0, 1, -1, math.MaxInt, math.MinInt} {
			p := api.Proto{Regs: 4096, Code: []api.Instr{{Op: api.OpCall, A: a, B: b}, {Op: api.OpEnd}}}
			mustCheck(t, p, checkByWords(p), a, b)
		}
	}
}

// P13.1: of forcheck and forstep A and 2 are below Regs, also where there are fewer than three registers.
func TestFor(t *testing.T) {
	for _, op := range []int{api.OpForCheck, api.OpForStep} {
		for regs := range 6 {
			for _, a := range append(edges(regs), 3, 4) {
				p := api.Proto{Regs: regs, Code: []api.Instr{{Op: op, A: a}, {Op: api.OpEnd}}}
				want := api.ErrArg
				if a >= 0 && a < regs-2 {
					want = api.OK
				}
				mustCheck(t, p, want, op, regs, a)
			}
		}
	}
}

// P13.1: an Op that is none, first, in the middle, last, in the whole script and within.
func TestNoOp(t *testing.T) {
	for _, op := range noOps {
		for in := range 3 {
			for at := range 4 {
				p := shell(api.Instr{Op: api.OpMove})
				p.Code[at].Op = op
				mustCheck(t, deep(p, in), api.ErrArg, op, in, at)
			}
		}
	}
}

// P13.1: no order at all, and which order may be the last.
func TestLastOrder(t *testing.T) {
	for in := range 3 {
		p := shell(api.Instr{})
		p.Code = nil
		mustCheck(t, deep(p, in), api.ErrArg, "no order", in)
		for _, r := range byNumber {
			p := shell(api.Instr{})
			if in > 0 {
				p.Ups = []api.Up{{Own: true}}
			}
			p.Code[3] = api.Instr{Op: r.op}
			want := api.ErrArg
			if r.name == "jump" || r.name == "return" || r.name == "end" {
				want = api.OK
			}
			mustCheck(t, deep(p, in), want, r.name, in)
			p.Code = p.Code[3:]
			mustCheck(t, deep(p, in), want, r.name, "alone", in)
		}
	}
}

// P13.1: Params from 0 to MaxArgs, and not above Regs; Regs not below 0.
func TestParams(t *testing.T) {
	for in := range 3 {
		for _, regs := range []int{math.MinInt, -2, -1, 0, 1, 2, 29, 30, 31, 32, 4096} {
			for _, params := range append(edges(31), regs-1, regs, regs+1, 28, 29) {
				p := api.Proto{Params: params, Regs: regs, Code: []api.Instr{{Op: api.OpEnd}}}
				want := api.ErrArg
				if params >= 0 && params <= 30 && params <= regs {
					want = api.OK
				}
				mustCheck(t, deep(p, in), want, params, regs, in)
			}
		}
	}
}

// P13.1: constants of every kind that can be one, and such as can't, or are not Normal.
func TestConstants(t *testing.T) {
	for in := range 3 {
		p := shell(api.Instr{})
		p.Consts = append(goodConsts(), api.Value{K: api.Text, S: strings.Repeat("x", 20000)})
		mustCheck(t, deep(p, in), api.OK, in)
		for i, v := range badConsts() {
			for _, at := range []int{0, 7, len(goodConsts()) - 1} {
				p := shell(api.Instr{})
				p.Consts = goodConsts()
				p.Consts[at] = v
				mustCheck(t, deep(p, in), api.ErrArg, i, v.K, at, in)
			}
		}
	}
}

// P13.1: the whole script has no ups; those of a function within are registers, or ups, of the one about it.
func TestUps(t *testing.T) {
	for _, u := range []api.Up{{}, {Own: true}, {At: -1}, {At: 1}} {
		p := shell(api.Instr{})
		p.Ups = []api.Up{u}
		mustCheck(t, p, api.ErrArg, u)
	}
	for _, own := range []bool{false, true} {
		for _, x := range append(edges(7), edges(3)...) {
			in := named("in")
			in.Ups = []api.Up{{Own: true, At: 6}, {Own: own, At: x}, {Own: true}}
			p := shell(api.Instr{})
			p.Protos[1] = in
			want := api.ErrArg
			if own && x >= 0 && x < 7 {
				want = api.OK
			}
			mustCheck(t, p, want, own, x, "in the script")
			p.Ups = []api.Up{{Own: true}, {Own: true}, {Own: true}}
			if !own && x >= 0 && x < 3 {
				want = api.OK
			}
			mustCheck(t, named("about", p), want, own, x, "deeper")
			for i := range in.Ups {
				in.Ups[i].At = max(in.Ups[i].At, 0)
			}
			mustCheck(t, named("about", named("small", in)), api.ErrArg, own, x, "about it is a smaller one")
		}
	}
}

// full is a function as great as it may be.
func full(ups int) api.Proto {
	return api.Proto{
		Params: 30, Regs: 4096,
		Ups:    slices.Repeat([]api.Up{{Own: true}}, ups),
		Code:   slices.Repeat([]api.Instr{{Op: api.OpJump, A: 131071}}, 131072),
		Consts: slices.Repeat([]api.Value{{K: api.Text, S: "x"}}, 131072),
	}
}

// P13.1: ErrLong on both sides of each limit of one function, in the whole script and within.
func TestLimits(t *testing.T) {
	for in := range 3 {
		ups := min(in, 1) * 60
		p := full(ups)
		p.Code[0] = api.Instr{Op: api.OpConst, A: 4095, B: 131071}
		mustCheck(t, deep(p, in), api.OK, in)
		p.Regs++
		mustCheck(t, deep(p, in), api.ErrLong, "Regs", in)
		p.Regs = math.MaxInt
		mustCheck(t, deep(p, in), api.ErrLong, "Regs", in)
		p = full(ups)
		p.Code = append(p.Code, api.Instr{Op: api.OpEnd})
		mustCheck(t, deep(p, in), api.ErrLong, "Code", in)
		p = full(ups)
		p.Consts = append(p.Consts, api.Value{})
		mustCheck(t, deep(p, in), api.ErrLong, "Consts", in)
		p = full(61)
		mustCheck(t, deep(p, in), api.ErrLong, "Ups", in)
	}
	mustCheck(t, full(60), api.ErrArg, "60 ups of the script")
}

// P13.1: of two errors of one function ErrLong is told.
func TestLongFirst(t *testing.T) {
	wrong := []func(p *api.Proto){
		func(p *api.Proto) { p.Params = -1 },
		func(p *api.Proto) { p.Params = 31 },
		func(p *api.Proto) { p.Consts = append(p.Consts, api.Value{K: api.Table}) },
		func(p *api.Proto) { p.Code = nil },
		func(p *api.Proto) { p.Code[0].Op = 38 },
		func(p *api.Proto) { p.Code[0].A = -1 },
		func(p *api.Proto) { p.Ups = append(p.Ups, api.Up{At: -1}) },
	}
	long := []func(p *api.Proto){
		func(p *api.Proto) { p.Regs = 4097 },
		func(p *api.Proto) { p.Code = slices.Repeat([]api.Instr{{Op: api.OpMove}}, 131073) },
		func(p *api.Proto) { p.Consts = slices.Repeat([]api.Value{{K: api.Box}}, 131073) },
		func(p *api.Proto) { p.Ups = make([]api.Up, 61) },
	}
	for in := range 3 {
		for i, w := range wrong {
			p := shell(api.Instr{})
			w(&p)
			mustCheck(t, deep(p, in), api.ErrArg, i, in)
			for j, l := range long {
				q := shell(api.Instr{})
				if i != 3 && j != 1 {
					w(&q)
				}
				l(&q)
				mustCheck(t, deep(q, in), api.ErrLong, i, j, in)
			}
		}
	}
	p := named("p")
	p.Regs, p.Params = -1, 0
	p.Consts = slices.Repeat(p.Consts, 131073)
	mustCheck(t, p, api.ErrLong, "Regs below 0, and too many constants")
}

// P13.1: a function lies in at most MaxNest others.
func TestNest(t *testing.T) {
	mustCheck(t, chain(101), api.OK)
	mustCheck(t, chain(102), api.ErrLong)
	wrong := named("wrong")
	wrong.Params = -1
	for _, in := range []int{100, 101, 102} {
		want := api.ErrArg
		if in > 100 {
			want = api.ErrLong
		}
		p := wrong
		for range in {
			p = named("about", p)
		}
		mustCheck(t, p, want, in)
	}
	p := chain(102)
	p.Protos = append([]api.Proto{wrong}, p.Protos...)
	mustCheck(t, p, api.ErrArg, "a wrong one ahead")
	p.Protos = slices.Insert(chain(102).Protos, 1, wrong)
	mustCheck(t, p, api.ErrLong, "a wrong one behind")
}

// crowd is a script with so many functions in all, in all shapes.
func crowd(count int, r *rand.Rand) api.Proto {
	p := named("p")
	for count--; count > 0; {
		share := 1
		if r != nil {
			share = 1 + r.Intn(count)
		}
		if share > 50 {
			share /= 10
		}
		p.Protos = append(p.Protos, crowd(share, r))
		count -= share
	}
	return p
}

// P13.1: a script has at most MaxFuncs functions in all, itself one of them.
func TestCount(t *testing.T) {
	for seed := range 20 {
		r := rand.New(rand.NewSource(int64(seed)))
		if seed == 0 {
			r = nil
		}
		mustCheck(t, crowd(4096, r), api.OK, seed)
		mustCheck(t, crowd(4097, r), api.ErrLong, seed)
		mustCheck(t, crowd(5000, r), api.ErrLong, seed)
	}
	for i, want := range map[int]api.Errno{0: api.ErrArg, 4094: api.ErrArg, 4095: api.ErrLong, 4096: api.ErrLong} {
		p := crowd(4098, nil)
		p.Protos[i].Code = nil
		mustCheck(t, p, want, i)
	}
}

// P13.1: p comes first, then the functions within, each ahead of those behind it with all that is within.
func TestOrderOfFunctions(t *testing.T) {
	wrong := func(p api.Proto) api.Proto { p.Code = nil; return p }
	long := func(p api.Proto) api.Proto { p.Regs = 4097; return p }
	a, b := named("a"), named("b")
	mustCheck(t, wrong(named("p", long(a))), api.ErrArg)
	mustCheck(t, long(named("p", wrong(a))), api.ErrLong)
	mustCheck(t, named("p", wrong(a), long(b)), api.ErrArg)
	mustCheck(t, named("p", long(a), wrong(b)), api.ErrLong)
	mustCheck(t, named("p", named("q", long(a)), wrong(b)), api.ErrLong)
	mustCheck(t, named("p", named("q", wrong(a)), long(b)), api.ErrArg)
	mustCheck(t, named("p", wrong(named("q", long(a))), b), api.ErrArg)
	mustCheck(t, named("p", named("q", a), named("r", b, wrong(a)), long(b)), api.ErrArg)
	p := named("p", long(a))
	p.Ups = make([]api.Up, 1)
	mustCheck(t, p, api.ErrArg)
	q := long(a)
	r := named("r", q)
	r.Ups = []api.Up{{At: 0}}
	mustCheck(t, named("p", r), api.ErrArg)
}

// P13.1: Check of functions by chance, of which none, few, or many are wrong.
func TestCheckByChance(t *testing.T) {
	counts := map[api.Errno]int{}
	for _, wrong := range []int{0, 10, 40, 100, 300} {
		m := maker{rand.New(rand.NewSource(int64(wrong))), wrong}
		for range 4000 {
			p := m.function(nil, 3)
			want := checkByWords(p)
			if e := prog.Check(p); e != want || wrong == 0 && e != api.OK {
				t.Fatalf("%+v: %d, want %d", p, e, want)
			}
			counts[want]++
		}
	}
	for _, e := range []api.Errno{api.OK, api.ErrArg, api.ErrLong} {
		if counts[e] < 50 {
			t.Error(e, counts[e])
		}
	}
}

// P13.4: in what Check takes, from each order the machine goes on at an order that there is: all functions of three orders of those that go elsewhere, and some of the others.
func TestNowhereElse(t *testing.T) {
	var all []api.Instr
	for out := -1; out < 4; out++ {
		all = append(all, api.Instr{Op: api.OpJump, A: out}, api.Instr{Op: api.OpJumpIf, B: out}, api.Instr{Op: api.OpJumpNot, B: out}, api.Instr{Op: api.OpForCheck, B: out}, api.Instr{Op: api.OpForStep, B: out})
	}
	all = append(all, api.Instr{Op: api.OpReturn}, api.Instr{Op: api.OpEnd}, api.Instr{Op: api.OpCall}, api.Instr{Op: api.OpMove})
	for _, a := range all {
		for _, b := range all {
			for _, c := range all {
				mustStay(t, []api.Instr{a, b, c})
			}
			mustStay(t, []api.Instr{a, b})
		}
		mustStay(t, []api.Instr{a})
	}
	m := maker{rand.New(rand.NewSource(5)), 0}
	for range 2000 {
		for _, f := range prog.Flat(m.function(nil, 2)) {
			for at := range f.Code {
				for _, next := range nextByWords(f.Code, at) {
					if next < 0 || next >= len(f.Code) {
						t.Fatal(f.Code, at, next)
					}
				}
			}
		}
	}
}

// mustStay: Check takes these orders just if the machine stays among them.
func mustStay(t *testing.T, code []api.Instr) {
	t.Helper()
	want := api.OK
	for at := range code {
		for _, next := range nextByWords(code, at) {
			if next < 0 || next >= len(code) {
				want = api.ErrArg
			}
		}
	}
	if e := prog.Check(api.Proto{Regs: 3, Code: code}); e != want {
		t.Fatal(code, e, want)
	}
}
