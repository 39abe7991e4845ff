package vm_test

import (
	"testing"

	"minstrel/api"
	"minstrel/value"
	"minstrel/vm"
)

// P17.9, P17.3: what each part of a script costs, counted by hand; an error is paid for up to the order that fails, that one too.
func TestCosts(t *testing.T) {
	for s, want := range map[string]int{
		"": 0, "return": 1, "return nil": 2, "return 1": 2, "return 1 + 2": 4, "return -1": 3, "return not nil": 3, "return #\"a\"": 3,
		"local x": 0, "local x = 1": 1, "local x = 1 local y = x": 2, "x = 1": 2, "local x x = 1": 2, "local x = 1 x = x + 1": 5,
		"local function f() end": 2, "local f = function() end": 1, "f = function() end": 2,
		"local t = {}": 1, "local t = {1}": 4, "local t = {x = 1}": 4, "local t = {[1] = 1}": 4, "local t = {1, 2, x = 3}": 10, "local t = {{}}": 4,
		"local t = {} t.x = 1": 5, "local t = {} return t.x": 5, "local t = {} t[1] = t": 5,
		"return 1 and 2": 3, "return nil and 2": 2, "return 1 or 2": 2, "return nil or 2": 3, "return nil and 1 or 2": 3, "return 1 and 2 or 3": 3, "return not (1 and nil)": 4,
		"if 1 then end": 1, "if nil then x = 1 end": 1, "if nil then x = 1 else x = 2 end": 3, "if 1 then x = 1 else x = 2 end": 3, "if nil then elseif 2 then x = 1 end": 4, "do end": 0, "do local x = 1 end": 1,
		"while nil do end": 1, "local i = 0 while i < 3 do i = i + 1 end": 1 + 4*3 + 3*5, "while true do break end": 1, "while true do if 1 then break end end": 2,
		"for i = 1, 0 do end": 4, "for i = 1, 3 do end": 4 + 3, "for i = 1, 3, 1 do end": 4 + 3, "for i = 1, 3 do x = i end": 4 + 3*3, "for i = 1, 3 do break end": 4, "for i = 3, 1, -1 do end": 5 + 3,
		"type(1)": 3, "type()": 2, "local f = function() end f()": 3, "local f = function() return end f()": 4, "local f = function(a) return a end f(5)": 6,
		"pcall(type, 1)": 4, "pcall(error, 1)": 4, "return pcall(type)[1]": 6, "pcall(pcall, pcall, type)": 5,
		"local c = create(type)": 3, "local c = create(type) resume(c, 1)": 7, "local c = create(yield) resume(c, 1) resume(c, 2)": 11, "local c = create(function() yield() end) resume(c)": 3 + 3 + 2,
		"local x local f = function() return x end f()": 1 + 2 + 2, "local x local f = function() x = 1 end f()": 1 + 2 + 2,
		"local x = 1 return function() return x end": 3,
		"error()": 2, "error(1)": 3, "return 1 + nil": 3, "return -{}": 2, "g()": 2, "g(1, 2)": 4, "return g.x": 3, "g.x = 1": 4, "local t = {} t[nil] = 1": 5, "return yield(1)": 3, "return 1 .. {}": 3, "return 1 < {}": 3,
		"for i = 1, 2, 0 do end": 4, "for i = nil, 2 do end": 4, "return {1, 2, nil + 1, 4}": 1 + 3 + 3 + 3, "return {x = g.y}": 1 + 1 + 3,
	} {
		o := newWorlds(t, 1000, 7).script(t, s, 1000)
		if paid := 1000 - o.Fuel; paid != want {
			t.Errorf("%s costs %d, not %d", s, paid, want)
		}
		for fuel := range want {
			if o := newWorlds(t, 1000, 7).script(t, s, fuel); o != (api.Outcome{End: api.NoFuel}) {
				t.Errorf("%s with fuel %d of %d: %v", s, fuel, want, o)
			}
		}
	}
}

// P17.3: an order pays first: without the fuel for it nothing of it is done.
func TestPaysFirst(t *testing.T) {
	for _, c := range []struct {
		s    string
		fuel int // too little by one
		x    string
	}{
		{"x = 1", 1, "nil"},
		{"x = 1 x = 2", 3, "1"},
		{"x = {} x.y = 5", 4, "table"},
		{"x = 1 error(x)", 4, "1"},
		{"x = 1 x = x + nil", 4, "1"},
	} {
		w := fresh(t)
		if o := runScript(t, w, c.s, c.fuel); o != (api.Outcome{End: api.NoFuel}) {
			t.Errorf("%s with fuel %d: %v", c.s, c.fuel, o)
		}
		if got := value.Show(w.Heap().Get(1, value.Text("x"))); got != c.x {
			t.Errorf("%s with fuel %d: x is %s, not %s", c.s, c.fuel, got, c.x)
		}
	}
	// Where there is neither fuel nor room, it is the fuel that is told.
	for s, used := range map[string]int{"return {}": 0, "return function() end": 0, "x = 1": 1, "return create(type)": 2, "return pcall(type)": 2} {
		w, _ := vm.New(24, 7)
		if o := runScript(t, w, s, used); o != (api.Outcome{End: api.NoFuel}) {
			t.Errorf("%s with fuel %d: %v", s, used, o)
		}
		w, _ = vm.New(24, 7)
		if o := runScript(t, w, s, used+1); o != (api.Outcome{End: api.NoRoom}) {
			t.Errorf("%s with fuel %d: %v", s, used+1, o)
		}
	}
	// A call that can't be paid isn't made.
	w := fresh(t)
	if runScript(t, w, "return random()", 1); w.Seed() != 7 {
		t.Error("a call that wasn't paid was made")
	}
}

// P17.3: which jumps pay: those that go to their own place, or one ahead of it; those that don't go pay nothing.
func TestJumps(t *testing.T) {
	yes, no := value.Bool(true), value.Bool(false)
	for _, c := range []struct {
		why  string
		cond api.Value
		l    []api.Instr // from place 1 on, behind a const of the condition
		want api.Outcome // with fuel 10
	}{
		{"on", yes, []api.Instr{{Op: api.OpJump, A: 3}, {Op: api.OpReturn}, {Op: api.OpEnd}}, api.Outcome{Fuel: 9}},
		{"to the next", yes, []api.Instr{{Op: api.OpJump, A: 2}, {Op: api.OpEnd}}, api.Outcome{Fuel: 9}},
		{"to itself", yes, []api.Instr{{Op: api.OpJump, A: 1}}, api.Outcome{End: api.NoFuel}},
		{"back", yes, []api.Instr{{Op: api.OpJump, A: 3}, {Op: api.OpReturn}, {Op: api.OpJump, A: 2}}, api.Outcome{V: yes, Fuel: 7}},
		{"if, on", yes, []api.Instr{{Op: api.OpJumpIf, B: 3}, {Op: api.OpReturn}, {Op: api.OpEnd}}, api.Outcome{Fuel: 9}},
		{"if, not", no, []api.Instr{{Op: api.OpJumpIf, B: 3}, {Op: api.OpReturn}, {Op: api.OpEnd}}, api.Outcome{V: no, Fuel: 8}},
		{"if, to itself", yes, []api.Instr{{Op: api.OpJumpIf, B: 1}, {Op: api.OpEnd}}, api.Outcome{End: api.NoFuel}},
		{"if, not to itself", no, []api.Instr{{Op: api.OpJumpIf, B: 1}, {Op: api.OpEnd}}, api.Outcome{Fuel: 9}},
		{"if, back", yes, []api.Instr{{Op: api.OpJump, A: 3}, {Op: api.OpReturn}, {Op: api.OpJumpIf, B: 2}, {Op: api.OpEnd}}, api.Outcome{V: yes, Fuel: 7}},
		{"if, not back", no, []api.Instr{{Op: api.OpJump, A: 3}, {Op: api.OpReturn}, {Op: api.OpJumpIf, B: 2}, {Op: api.OpEnd}}, api.Outcome{Fuel: 9}},
		{"not, on", no, []api.Instr{{Op: api.OpJumpNot, B: 3}, {Op: api.OpReturn}, {Op: api.OpEnd}}, api.Outcome{Fuel: 9}},
		{"not, not", yes, []api.Instr{{Op: api.OpJumpNot, B: 3}, {Op: api.OpReturn}, {Op: api.OpEnd}}, api.Outcome{V: yes, Fuel: 8}},
		{"not, to itself", no, []api.Instr{{Op: api.OpJumpNot, B: 1}, {Op: api.OpEnd}}, api.Outcome{End: api.NoFuel}},
		{"not, back", no, []api.Instr{{Op: api.OpJump, A: 3}, {Op: api.OpReturn}, {Op: api.OpJumpNot, B: 2}, {Op: api.OpEnd}}, api.Outcome{V: no, Fuel: 7}},
		{"not, not back", yes, []api.Instr{{Op: api.OpJump, A: 3}, {Op: api.OpReturn}, {Op: api.OpJumpNot, B: 2}, {Op: api.OpEnd}}, api.Outcome{Fuel: 9}},
	} {
		p := api.Proto{Regs: 1, Consts: []api.Value{c.cond}, Code: append([]api.Instr{{Op: api.OpConst}}, c.l...)}
		if o := newWorlds(t, 100, 7).proto(t, p, 10); o != c.want {
			t.Errorf("a jump %s: %v, not %v", c.why, o, c.want)
		}
	}
	for _, v := range []api.Value{{}, no, yes, num(0), value.Text(""), num(1)} {
		is := v != (api.Value{}) && v != no
		p := api.Proto{Regs: 1, Consts: []api.Value{v}, Code: []api.Instr{{Op: api.OpConst}, {Op: api.OpJumpIf, B: 3}, {Op: api.OpEnd}, {Op: api.OpReturn}}}
		if o := newWorlds(t, 100, 7).proto(t, p, 10); (o.Fuel == 8) != is {
			t.Errorf("jumpif of %v: %v", v, o)
		}
		p.Code[1].Op = api.OpJumpNot
		if o := newWorlds(t, 100, 7).proto(t, p, 10); (o.Fuel == 8) == is {
			t.Errorf("jumpnot of %v: %v", v, o)
		}
	}
}

// P17.3: an order costs what prog says, wherever it stands: those that cost nothing are done without any fuel.
func TestFreeOrders(t *testing.T) {
	p := api.Proto{Regs: 3, Code: []api.Instr{{Op: api.OpClear}, {Op: api.OpNewBox, A: 1}, {Op: api.OpShift, A: 2, B: 1}, {Op: api.OpJump, A: 5}, {Op: api.OpReturn}, {Op: api.OpJumpNot, B: 7}, {Op: api.OpReturn}, {Op: api.OpJumpIf, B: 6}, {Op: api.OpEnd}}}
	w := newWorlds(t, 100, 7)
	if o := w.proto(t, p, 0); o != (api.Outcome{}) || w.w.Heap().Len() != 2 {
		t.Errorf("orders that are free: %v", o)
	}
	// move and shift do the same, at another cost.
	for op, paid := range map[int]int{api.OpMove: 3, api.OpShift: 2} {
		p := api.Proto{Regs: 2, Consts: []api.Value{num(4)}, Code: []api.Instr{{Op: api.OpConst}, {Op: op, A: 1}, {Op: api.OpClear}, {Op: api.OpReturn, A: 1}}}
		if o := newWorlds(t, 100, 7).proto(t, p, 10); o != (api.Outcome{V: num(4), Fuel: 10 - paid}) {
			t.Errorf("order %d: %v", op, o)
		}
	}
}

// P17.9: the order in which the parts of a script are reckoned: p notes its argument.
func TestOrderOfParts(t *testing.T) {
	const note = "log = \"\" local function p(x) log = log .. tostring(x) return x end local function q(x, y) log = log .. tostring(x) return y end "
	for s, want := range map[string]string{
		"p(1) p(2) p(3)":                                          "123",
		"return p(1) + p(2) * p(3)":                               "123",
		"return (p(1) + p(2)) * p(3)":                             "123",
		"return p(1) .. p(2) .. p(3)":                             "123",
		"return p(1) < p(2)":                                      "12",
		"return p(1) > p(2)":                                      "12",
		"return p(1) >= p(2)":                                     "12",
		"return p(1) == p(2)":                                     "12",
		"return {p(1), p(2), x = p(3), [p(4)] = p(5)}":            "12345",
		"q(1, p)(p(2), p(3))":                                     "1232",
		"q(1, {})[p(2)] = p(3)":                                   "123",
		"q(1, q(2, {}))[p(3)] = q(4, p(5))":                       "213" + "54",
		"return q(1, {})[p(2)]":                                   "12",
		"return p(1) and p(2)":                                    "12",
		"return p(nil) and p(2)":                                  "nil",
		"return p(false) or p(2)":                                 "false2",
		"return p(1) or p(2)":                                     "1",
		"return p(1) and p(nil) or p(3)":                          "1nil3",
		"if p(1) then p(2) else p(3) end":                         "12",
		"if p(nil) then p(2) elseif p(4) then p(5) else p(3) end": "nil45",
		"for i = p(1), p(2), p(1) do p(i) end":                    "12112",
		"local i = 0 while p(i) < 2 do i = i + 1 end":             "012",
		"local x = p(1) local x = p(x + 1) p(x)":                  "122",
		"do p(1) end p(2)":                                        "12",
		"while true do p(1) break end p(2)":                       "12",
		"local f = function() p(1) end p(2) f()":                  "21",
		"return -p(1)":                                            "1",
		"x = p(1) y = p(2)":                                       "12",
		"pcall(p, p(1))":                                          "11",
		"p(nil + 1)":                                              "",
		"return {p(1), nil + 1, p(3)}":                            "1",
		"local t = nil t[p(1)] = p(2)":                            "12",
		"local t = nil return t[p(1)]":                            "1",
		"return p(1) + nil + p(2)":                                "1",
		"return nil < p(1)":                                       "1",
		"g(p(1), p(2))":                                           "12",
		"for i = p({}), p(2) do p(3) end":                         "table2",
	} {
		w := newWorlds(t, 1000, 7)
		w.script(t, note+s, 1000)
		if got := w.w.Heap().Get(1, value.Text("log")); got != value.Text(want) {
			t.Errorf("%s: %s, not %s", s, value.Show(got), want)
		}
	}
}

// P17.9: the example of the chapter.
func TestExample(t *testing.T) {
	for _, fuel := range []int{4, 5, 1000, api.MaxFuel} {
		if o := runScript(t, fresh(t), "return 1 + 2", fuel); o != (api.Outcome{End: api.Done, V: num(3), Fuel: fuel - 4}) {
			t.Errorf("return 1 + 2 with fuel %d: %v", fuel, o)
		}
	}
}
