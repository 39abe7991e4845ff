package vm_test

import (
	"math"
	"testing"

	"minstrel/api"
	"minstrel/value"
)

// rounds are the numbers of a for, up to so many, by the chapter's words alone.
func rounds(from, to, step float64, most int) []float64 {
	var l []float64
	for len(l) < most && (step > 0 && !(from > to) || step < 0 && !(from < to)) {
		l = append(l, from)
		from += step
	}
	return l
}

// counting is a script's function that counts from, to and step of the constants, and notes each number; it answers how many there were.
func counting(from, to, step float64) api.Proto {
	return api.Proto{
		Regs: 7, Consts: []api.Value{num(from), num(to), num(step), value.Text("log"), num(1), num(0)},
		Code: []api.Instr{
			{Op: api.OpMake, A: 0}, {Op: api.OpSetGlobal, A: 3, B: 0}, {Op: api.OpConst, A: 1, B: 5}, {Op: api.OpConst, A: 2, B: 4},
			{Op: api.OpConst, A: 3, B: 0}, {Op: api.OpConst, A: 4, B: 1}, {Op: api.OpConst, A: 5, B: 2},
			{Op: api.OpForCheck, A: 3, B: 11},
			{Op: api.OpAdd, A: 1, B: 1, C: 2}, {Op: api.OpSetIndex, A: 0, B: 1, C: 3}, {Op: api.OpForStep, A: 3, B: 8},
			{Op: api.OpReturn, A: 1},
		},
	}
}

// P17.5: a for of any three numbers: up, down, by 0, with NaNs, infinities, and numbers so great that a step changes nothing.
func TestForOfNumbers(t *testing.T) {
	inf, nan := math.Inf(1), math.NaN()
	numbers := []float64{0, math.Copysign(0, -1), 1, -1, 2, 3, -3, 0.5, -0.1, 5e-324, 1e16, 1e17, -1e17, math.MaxFloat64, -math.MaxFloat64, inf, -inf, nan}
	const most = 20
	for _, from := range numbers {
		for _, to := range numbers {
			for _, step := range numbers {
				w := newWorlds(t, 200, 7)
				o := w.proto(t, counting(from, to, step), 8+3*most)
				want := rounds(from, to, step, most+1)
				switch {
				case step == 0:
					if o != (api.Outcome{End: api.Failed, V: value.Text("for"), Fuel: 3 * most}) {
						t.Errorf("for %g, %g, %g: %v", from, to, step, o)
					}
					continue
				case len(want) >= most:
					if o != (api.Outcome{End: api.NoFuel}) {
						t.Errorf("for %g, %g, %g: %v, but it goes on", from, to, step, o)
					}
				case o != (api.Outcome{V: num(float64(len(want))), Fuel: 8 + 3*most - 9 - 3*len(want)}):
					t.Errorf("for %g, %g, %g: %v, not %d rounds", from, to, step, o, len(want))
				}
				log := w.w.Heap().Get(1, value.Text("log")).O
				for i, x := range want[:min(len(want), most)] {
					if got := w.w.Heap().Get(log, num(float64(i+1))); got != num(x) {
						t.Fatalf("for %g, %g, %g: the number %d is %v, not %g", from, to, step, i+1, got, x)
					}
				}
			}
		}
	}
}

// P17.5: fors of scripts, by hand.
func TestFor(t *testing.T) {
	for head, want := range map[string]string{
		"1, 3": "123", "3, 1": "", "1, 1": "1", "3, 1, -1": "321", "1, 3, -1": "", "1, 2, 0.5": "11.52", "1, 10, 4": "159", "10, 1, -4": "1062", "0, -0": "0", "-0, 0": "-0", "1, 0/0": "endless", "0/0, 1": "endless", "1, 1/0": "endless", "-1/0, 0": "endless", "1/0, 1": "", "1/0, 1/0": "endless", "1, 2, 1/0": "1", "1, 2, 0/0": "", "5, -1/0, -1": "endless", "1e16, 2e16": "endless", "0, 1, 5e-324": "endless", "0/0, 1, -1": "endless",
		"1, 2, 0": "!for", "1, 2, -0": "!for", "2, 1, 0": "!for", "1, 2, nil": "!for", "nil, 2": "!for", "1, nil": "!for", `"1", 2`: "!for", `1, "2"`: "!for", `1, 2, "1"`: "!for", "{}, 2": "!for", "true, 2": "!for", "1, type": "!for",
	} {
		o := newWorlds(t, 100, 7).script(t, "local s = \"\" for i = "+head+" do s = s .. i end return s", 1000)
		got := shown(o)
		if o.End == api.NoFuel {
			got = "endless"
		}
		if got != want {
			t.Errorf("for i = %s: %s, not %s", head, got, want)
		}
	}
}

// changed is a for from 1 to 3 by 1, within which, at the second round, a register is set to a constant.
func changed(reg int, v api.Value) api.Proto {
	return api.Proto{
		Regs: 6, Consts: []api.Value{num(1), num(3), num(1), num(0), v, num(2)},
		Code: []api.Instr{
			{Op: api.OpConst, A: 0, B: 0}, {Op: api.OpConst, A: 1, B: 1}, {Op: api.OpConst, A: 2, B: 2}, {Op: api.OpConst, A: 3, B: 3}, {Op: api.OpConst, A: 4, B: 2},
			{Op: api.OpForCheck, A: 0, B: 12},
			{Op: api.OpAdd, A: 3, B: 3, C: 4}, {Op: api.OpConst, A: 5, B: 5}, {Op: api.OpNe, A: 5, B: 3, C: 5}, {Op: api.OpJumpIf, A: 5, B: 11},
			{Op: api.OpConst, A: reg, B: 4},
			{Op: api.OpForStep, A: 0, B: 6},
			{Op: api.OpReturn, A: 3},
		},
	}
}

// P17.5: a for whose numbers are changed within it: forstep goes by what the registers have then; a step of 0 is no error there.
func TestForChanged(t *testing.T) {
	nan := num(math.NaN())
	for _, c := range []struct {
		reg  int
		v    api.Value
		want string
	}{
		{0, num(1), "4"}, {0, num(3), "2"}, {0, num(9), "2"}, {0, num(-5), "10"}, {0, nan, "end 2"}, {0, api.Value{}, "!for"}, {0, value.Text("1"), "!for"}, {0, num(math.Inf(-1)), "end 2"},
		{1, num(2), "2"}, {1, num(5), "5"}, {1, nan, "end 2"}, {1, value.Bool(true), "!for"}, {1, value.Text("3"), "!for"},
		{2, num(0), "2"}, {2, num(math.Copysign(0, -1)), "2"}, {2, nan, "2"}, {2, num(-1), "2"}, {2, num(5), "2"}, {2, num(0.5), "4"}, {2, api.Value{}, "!for"}, {2, value.Text("1"), "!for"},
		{5, num(7), "3"},
	} {
		if o := newWorlds(t, 100, 7).proto(t, changed(c.reg, c.v), 200); shown(o) != c.want {
			t.Errorf("the register %d set to %v: %v, not %s", c.reg, c.v, o, c.want)
		}
	}
}

// P17.5: forstep by itself: it changes its register, and no other; by an error it changes none.
func TestForStep(t *testing.T) {
	for _, c := range []struct {
		three [3]api.Value
		want  string
	}{
		{[3]api.Value{num(1), num(5), num(2)}, "352on"},
		{[3]api.Value{num(4), num(5), num(2)}, "652off"},
		{[3]api.Value{num(3), num(5), num(2)}, "552on"},
		{[3]api.Value{num(1), num(5), num(0)}, "150off"},
		{[3]api.Value{num(1), num(-5), num(-6)}, "-5-5-6on"},
		{[3]api.Value{num(1), num(-5), num(-7)}, "-6-5-7off"},
		{[3]api.Value{num(1), num(5), value.Text("2")}, "!for"},
		{[3]api.Value{num(1), {}, num(2)}, "!for"},
		{[3]api.Value{{}, num(5), num(2)}, "!for"},
		{[3]api.Value{num(1), num(5), {}}, "!for"},
	} {
		p := api.Proto{
			Regs: 4, Consts: append(c.three[:], value.Text("on"), value.Text("off")),
			Code: []api.Instr{
				{Op: api.OpConst, A: 0, B: 0}, {Op: api.OpConst, A: 1, B: 1}, {Op: api.OpConst, A: 2, B: 2}, {Op: api.OpConst, A: 3, B: 3},
				{Op: api.OpForStep, A: 0, B: 6}, {Op: api.OpConst, A: 3, B: 4},
				{Op: api.OpConcat, A: 0, B: 0, C: 1}, {Op: api.OpConcat, A: 0, B: 0, C: 2}, {Op: api.OpConcat, A: 0, B: 0, C: 3}, {Op: api.OpReturn, A: 0},
			},
		}
		if o := newWorlds(t, 100, 7).proto(t, p, 100); shown(o) != c.want {
			t.Errorf("forstep of %v: %v, not %s", c.three, o, c.want)
		}
	}
}

// P17.5, P17.3: forcheck and forstep cost 1, whether they go on at B or behind themselves, ahead or back.
func TestForCosts(t *testing.T) {
	for _, op := range []int{api.OpForCheck, api.OpForStep} {
		for _, from := range []float64{1, 100} {
			for _, to := range []int{1, 6, 7} {
				p := api.Proto{Regs: 3, Consts: []api.Value{num(from), num(9), num(1)}}
				p.Code = []api.Instr{{Op: api.OpJump, A: 2}, {Op: api.OpEnd}, {Op: api.OpConst, A: 0, B: 0}, {Op: api.OpConst, A: 1, B: 1}, {Op: api.OpConst, A: 2, B: 2}, {Op: op, A: 0, B: to}, {Op: api.OpEnd}, {Op: api.OpEnd}}
				if o := newWorlds(t, 100, 7).proto(t, p, 50); o != (api.Outcome{Fuel: 46}) {
					t.Errorf("order %d from %g to the place %d: %v", op, from, to, o)
				}
			}
		}
	}
}
