package vm_test

import (
	"math"
	"strconv"
	"strings"
	"testing"

	"minstrel/api"
	"minstrel/value"
)

// sorts are exps of each kind, one letter each: Nil, Bool, Number, Text, Table, Func, Co (a thread), Lib.
var sorts = []struct {
	letter byte
	exps   []string
}{
	{'N', []string{"nil", "g"}},
	{'B', []string{"false", "true"}},
	{'n', []string{"0", "-0", "1", "2", "-2.5", "1e300", "5e-324", "9007199254740993", "1/0", "-1/0", "0/0"}},
	{'t', []string{`""`, `"a"`, `"ab"`, `"1"`, `"\n"`}},
	{'T', []string{"{}", "{1, 2}", "type and {x = 1}"}},
	{'F', []string{"function() end"}},
	{'C', []string{"create(type)"}},
	{'L', []string{"type", "yield"}},
}

// errorOf is the error of a sign between two exps of these kinds, "" if there is none.
func errorOf(sign string, a, b byte) string {
	both := string([]byte{a, b})
	switch sign {
	case "==", "~=":
		return ""
	case "<", "<=", ">", ">=":
		if both == "nn" || both == "tt" {
			return ""
		}
		return "compare"
	case "..":
		if strings.Trim(both, "nt") == "" {
			return ""
		}
		return "concat"
	}
	if both == "nn" {
		return ""
	}
	return "arith"
}

// P17.4: each sign between values of each kind: the error that the chapter names of those kinds, or what the tests' own bench makes of them.
func TestBinaryOfKinds(t *testing.T) {
	for _, sign := range []string{"+", "-", "*", "/", "%", "..", "==", "~=", "<", "<=", ">", ">="} {
		for _, x := range sorts {
			for _, y := range sorts {
				want := errorOf(sign, x.letter, y.letter)
				for _, a := range x.exps {
					for _, b := range y.exps {
						s := "local a = " + a + " local b = " + b + " return a " + sign + " b"
						o := newWorlds(t, 100, 7).script(t, s, 100)
						if is := o.End == api.Failed; is != (want != "") || is && o.V != value.Text(want) {
							t.Errorf("%s: %v, not the error %q", s, o, want)
						}
					}
				}
			}
		}
	}
}

// P17.4: not, - and # of values of each kind; index and setindex of each kind with keys of each kind.
func TestUnaryAndIndexOfKinds(t *testing.T) {
	fails := func(s, want string) {
		t.Helper()
		o := newWorlds(t, 100, 7).script(t, s, 100)
		if is := o.End == api.Failed; is != (want != "") || is && o.V != value.Text(want) {
			t.Errorf("%s: %v, not the error %q", s, o, want)
		}
	}
	when := func(is bool, wrong string) string {
		if is {
			return ""
		}
		return wrong
	}
	for _, x := range sorts {
		for _, a := range x.exps {
			fails("local a = "+a+" return not a", "")
			fails("local a = "+a+" return -a", when(x.letter == 'n', "arith"))
			fails("local a = "+a+" return #a", when(x.letter == 't' || x.letter == 'T', "len"))
			for _, y := range sorts {
				for _, k := range y.exps {
					isTable := x.letter == 'T'
					isKey := y.letter != 'N' && k != "0/0"
					fails("local a = "+a+" local k = "+k+" return a[k]", when(isTable, "index"))
					wrong := when(isTable, "index")
					if wrong == "" {
						wrong = when(isKey, "key")
					}
					fails("local a = "+a+" local k = "+k+" a[k] = 5 return a[k]", wrong)
					fails("local a = "+a+" local k = "+k+" a[k] = nil return a[k]", wrong)
				}
			}
		}
	}
}

// P17.4: what orders make, by hand.
func TestReckon(t *testing.T) {
	for s, want := range map[string]string{
		"1 + 2": "3", "0.1 + 0.2": "0.30000000000000004", "1/0 - 1/0": "nan", "2 - 5": "-3", "3 * -0": "-0", "7 / 2": "3.5", "1 / -0": "-inf", "-1 % 3": "2", "1 % -3": "-2", "5.5 % 2": "1.5", "-6 % 3": "0", "6 % -3": "-0", "1 % 0": "nan", "1 % (1/0)": "1", "-1 % (1/0)": "inf", "1e308 * 10": "inf",
		`"1" + 2`: "!arith", "nil - 1": "!arith", "true * 1": "!arith", "{} / 1": "!arith", "1 % type": "!arith",
		"- 5": "-5", "- 0": "-0", "-(0/0)": "nan", `-"5"`: "!arith", "not nil": "true", "not false": "true", "not 0": "false", `not ""`: "false", "not {}": "false",
		`#""`: "0", `#"abc"`: "3", `#"\n\t"`: "2", `#(char(195) .. char(164))`: "2", "#{}": "0", "#{1, 2, 3}": "3", "#{1, nil, 3}": "1", "#{nil, 2}": "0", "#{[2] = 1, [1] = 1}": "2", "#{x = 1}": "0", "#5": "!len", "#nil": "!len", "#type": "!len",
		`"a" .. "b"`: "ab", `1 .. 2`: "12", `"x" .. -0`: "x-0", `0.5 .. ""`: "0.5", `1/0 .. ""`: "inf", `"a" .. nil`: "!concat", `true .. "a"`: "!concat", `{} .. 1`: "!concat", `"a" .. "b" .. 3`: "ab3",
		`#(rep("a", 16383) .. 1)`: "16384", `#(rep("a", 16384) .. "")`: "16384", `rep("a", 16384) .. 1`: "!long", `12 .. rep("a", 16383)`: "!long",
		"1 == 1": "true", `1 == "1"`: "false", "0 == -0": "true", "0/0 == 0/0": "false", "nil == false": "false", `"a" == "a"`: "true", "{} == {}": "false", "type == type": "true", "type == error": "false", "1 ~= 1": "false", "0/0 ~= 0/0": "true", "nil ~= nil": "false", "nil ~= 0": "true",
		"1 < 2": "true", "2 < 2": "false", "2 <= 2": "true", "3 > 2": "true", "2 > 2": "false", "2 >= 2": "true", "-0 < 0": "false", "-0 >= 0": "true", "0/0 < 1": "false", "0/0 <= 0/0": "false", "0/0 >= 1": "false", "1 > 0/0": "false", "-1/0 < 1/0": "true",
		`"a" < "b"`: "true", `"a" < "ab"`: "true", `"B" < "a"`: "true", `"a" <= "a"`: "true", `"a" >= "b"`: "false", `"" < ""`: "false", `"" <= ""`: "true", `"b" > "a"`: "true", `"10" < "9"`: "true",
		`1 < "2"`: "!compare", "nil < 1": "!compare", "{} < {}": "!compare", "true >= true": "!compare", "type <= type": "!compare", `"a" > 1`: "!compare",
	} {
		if got := mustTell(t, "return "+s); got != want {
			t.Errorf("%s = %s, not %s", s, got, want)
		}
	}
}

// P17.4: index asks what stands in, setindex and global variables don't; Nil as a value lets a key go.
func TestIndex(t *testing.T) {
	for s, want := range map[string]string{
		"local t = {5, x = 6} return t[1] .. t.x":                                    "56",
		"local t = {} return t.x":                                                    "nil",
		"local t = {} return t[nil]":                                                 "nil",
		"local t = {} return t[0/0]":                                                 "nil",
		"local t = {} t[nil] = 1":                                                    "!key",
		"local t = {} t[0/0] = nil":                                                  "!key",
		"local t = {} t[-0] = 1 return t[0]":                                         "1",
		"local t = {x = 1} t.x = nil return next(t)":                                 "nil",
		"local t = setmeta({}, {x = 1}) return t.x":                                  "1",
		"local m = {} local t = setmeta({}, m) t.x = 1 return m.x":                   "nil",
		"local m = {x = 1} local t = setmeta({}, m) t.x = nil return t.x":            "1",
		"local t = {} setmeta(t, t) return t.x":                                      "nil",
		"local t = {last = 1} for i = 1, 16 do t = setmeta({}, t) end return t.last": "1",
		"local t = {last = 1} for i = 1, 17 do t = setmeta({}, t) end return t.last": "nil",
		"local x = 5 return x.y":                                                     "!index",
		"x.y = 1":                                                                    "!index",
		`local s = "abc" return s[1]`:                                                "!index",
		"return g":                                                                   "nil",
		"g = 1 g = nil return g":                                                     "nil",
		"g = 0/0 return g == g":                                                      "false",
		"type = 3 return type":                                                       "3",
		`local function f() return x end x = 4 return f()`:                           "4",
		"local t = {} t[t] = t t[type] = 1 t[true] = 2 t[1.5] = 3 return t[t][type] .. t[true] .. t[1.5]": "123",
		"local t = {} local f = function() end t[f] = 1 return type(t[function() end]) .. t[f]":           "nil1",
		"local a = {} local b = {} a[b] = 1 return tostring(a[{}]) .. a[b]":                               "nil1",
		"local t = {[1] = 1, [2] = 2} t[1] = nil local s = #t t[1] = 5 return s .. #t":                    "02",
	} {
		if got := mustTell(t, s); got != want {
			t.Errorf("%s: %s, not %s", s, got, want)
		}
	}
}

// P17.4: the table of the global variables is asked by Get, not by Look: what stands in for it is no variable.
func TestGlobalsByGet(t *testing.T) {
	w := fresh(t)
	m, _ := w.Heap().Table()
	w.Heap().Set(m, value.Text("x"), num(1))
	w.Heap().SetMeta(w.Globals(), api.Value{K: api.Table, O: m})
	if o := runScript(t, w, "return x", 10); o != (api.Outcome{Fuel: 8}) {
		t.Errorf("x = %v", o)
	}
}

// P17.4: global variables of functions that no script gives may have any constant as their name.
func TestGlobalsOfAnyName(t *testing.T) {
	for _, c := range []struct {
		name api.Value
		want string
	}{{value.Text("x"), "5"}, {num(1), "5"}, {num(math.Copysign(0, -1)), "5"}, {value.Bool(false), "5"}, {api.Value{}, "!key"}, {num(math.NaN()), "!key"}} {
		w := newWorlds(t, 100, 7)
		set := api.Proto{Regs: 1, Consts: []api.Value{c.name, num(5)}, Code: []api.Instr{{Op: api.OpConst, B: 1}, {Op: api.OpSetGlobal}, {Op: api.OpClear}, {Op: api.OpGetGlobal}, {Op: api.OpReturn}}}
		if o := w.proto(t, set, 10); shown(o) != c.want {
			t.Errorf("the global variable %v: %v, not %s", c.name, o, c.want)
		}
		get := api.Proto{Regs: 1, Consts: []api.Value{c.name}, Code: []api.Instr{{Op: api.OpGetGlobal}, {Op: api.OpReturn}}}
		if o := w.proto(t, get, 10); o.End != api.Done {
			t.Errorf("the global variable %v: %v", c.name, o)
		}
	}
}

// withBoxes is a function that does some orders with 5 in the register 0, a Box of 5 in 1, one of 6 in 2, and answers what is in 3.
func withBoxes(l ...api.Instr) api.Proto {
	p := api.Proto{Regs: 4, Consts: []api.Value{num(5), num(6)}}
	p.Code = append([]api.Instr{{Op: api.OpConst, A: 0}, {Op: api.OpNewBox, A: 1}, {Op: api.OpConst, A: 2, B: 1}, {Op: api.OpNewBox, A: 2, B: 2}}, l...)
	p.Code = append(p.Code, api.Instr{Op: api.OpReturn, A: 3}, api.Instr{Op: api.OpEnd})
	return p
}

// P17.3, P17.5: what Boxes do, and what does none: getbox and setbox of any other value is "box". As a value a Box is as Nil is.
func TestBoxes(t *testing.T) {
	for _, c := range []struct {
		why  string
		l    []api.Instr
		want string
		paid int
	}{
		{"newbox", nil, "nil", 3},
		{"getbox", []api.Instr{{Op: api.OpGetBox, A: 3, B: 1}}, "5", 4},
		{"getbox of the other", []api.Instr{{Op: api.OpGetBox, A: 3, B: 2}}, "6", 4},
		{"setbox", []api.Instr{{Op: api.OpSetBox, A: 2, B: 0}, {Op: api.OpGetBox, A: 3, B: 2}}, "5", 5},
		{"setbox and the other", []api.Instr{{Op: api.OpSetBox, A: 2, B: 0}, {Op: api.OpSetBox, A: 1, B: 3}, {Op: api.OpGetBox, A: 3, B: 1}}, "nil", 6},
		{"a Box in a Box", []api.Instr{{Op: api.OpSetBox, A: 1, B: 2}, {Op: api.OpGetBox, A: 3, B: 1}, {Op: api.OpGetBox, A: 3, B: 3}}, "6", 6},
		{"a moved Box", []api.Instr{{Op: api.OpMove, A: 3, B: 2}, {Op: api.OpGetBox, A: 3, B: 3}}, "6", 5},
		{"getbox of a number", []api.Instr{{Op: api.OpGetBox, A: 3, B: 0}}, "!box", 3},
		{"getbox of Nil", []api.Instr{{Op: api.OpGetBox, A: 3, B: 3}}, "!box", 3},
		{"setbox of a number", []api.Instr{{Op: api.OpSetBox, A: 0, B: 1}}, "!box", 3},
		{"setbox of a table", []api.Instr{{Op: api.OpMake, A: 3}, {Op: api.OpSetBox, A: 3, B: 1}}, "!box", 4},
		{"getbox of a table", []api.Instr{{Op: api.OpMake, A: 3}, {Op: api.OpGetBox, A: 3, B: 3}}, "!box", 4},
		{"not of a Box", []api.Instr{{Op: api.OpNot, A: 3, B: 1}}, "true", 4},
		{"len of a Box", []api.Instr{{Op: api.OpLen, A: 3, B: 1}}, "!len", 3},
		{"index of a Box", []api.Instr{{Op: api.OpIndex, A: 3, B: 1, C: 0}}, "!index", 3},
		{"a call of a Box", []api.Instr{{Op: api.OpCall, A: 1}}, "!call", 3},
		{"two Boxes", []api.Instr{{Op: api.OpEq, A: 3, B: 1, C: 2}}, "true", 4},
		{"a Box and Nil", []api.Instr{{Op: api.OpNe, A: 3, B: 1, C: 3}}, "false", 4},
	} {
		p := withBoxes(c.l...)
		o := newWorlds(t, 100, 7).proto(t, p, 100)
		if shown(o) != c.want || o.Fuel != 100-c.paid {
			t.Errorf("%s: %v, not %s with %d paid", c.why, o, c.want, c.paid)
		}
	}
}

// P17.7: a Box as an argument is as Nil is: what stands for a missing argument stands for it, too.
func TestBoxesAsArguments(t *testing.T) {
	call := func(args []api.Value, box int, name string) string {
		t.Helper()
		p := api.Proto{Regs: 5, Consts: append([]api.Value{value.Text(name)}, args...)}
		p.Code = []api.Instr{{Op: api.OpGetGlobal}}
		for i := range args {
			p.Code = append(p.Code, api.Instr{Op: api.OpConst, A: i + 1, B: i + 1})
		}
		p.Code = append(p.Code, api.Instr{Op: api.OpNewBox, A: box + 1, B: 4}, api.Instr{Op: api.OpCall, B: 3}, api.Instr{Op: api.OpReturn})
		return shown(newWorlds(t, 100, 7).proto(t, p, 100))
	}
	abc, b := value.Text("abc"), value.Text("b")
	for _, c := range []struct {
		name string
		args []api.Value
		box  int
		want string
	}{
		{"type", nil, 0, "nil"}, {"tostring", nil, 0, "nil"}, {"tonumber", nil, 0, "nil"}, {"error", nil, 0, "!nil"}, {"pcall", nil, 0, "table"}, {"create", nil, 0, "!call"}, {"resume", nil, 0, "!resume"}, {"yield", nil, 0, "!yield"}, {"upper", nil, 0, "!text"}, {"char", nil, 0, "!arith"}, {"next", nil, 0, "!index"},
		{"random", nil, 0, "0.3898297483912715"},
		{"sub", []api.Value{abc, num(2)}, 2, "bc"}, {"sub", []api.Value{abc}, 1, "!arith"}, {"byte", []api.Value{abc}, 1, "97"}, {"find", []api.Value{abc, b}, 2, "2"}, {"rep", []api.Value{abc}, 1, "!arith"},
	} {
		if got := call(c.args, c.box, c.name); got != c.want {
			t.Errorf("%s with a Box as the argument %d: %s, not %s", c.name, c.box, got, c.want)
		}
	}
	// A Box lets nothing stand in for a table.
	p := api.Proto{Regs: 5, Consts: []api.Value{value.Text("setmeta"), value.Text("getmeta")}, Code: []api.Instr{
		{Op: api.OpMake, A: 1}, {Op: api.OpMake, A: 2}, {Op: api.OpMove, A: 3, B: 1}, {Op: api.OpGetGlobal, A: 0, B: 0}, {Op: api.OpCall, A: 0, B: 2},
		{Op: api.OpNewBox, A: 2, B: 4}, {Op: api.OpGetGlobal, A: 0, B: 0}, {Op: api.OpCall, A: 0, B: 2},
		{Op: api.OpGetGlobal, A: 2, B: 1}, {Op: api.OpCall, A: 2, B: 1}, {Op: api.OpReturn, A: 2},
	}}
	if o := newWorlds(t, 100, 7).proto(t, p, 100); o != (api.Outcome{Fuel: 90}) {
		t.Errorf("what stands in behind setmeta with a Box: %v", o)
	}
}

// P17.5: make, newbox and closure make the objects that the chapter says.
func TestObjectsMade(t *testing.T) {
	w := fresh(t)
	runScript(t, w, "", 0)
	runScript(t, w, "local a = 5 local b = 6 f = function() return a end g = function() return function() return b + a end end h = g() t = {}", 100)
	object := func(name string) api.Object {
		o, _ := w.Heap().Object(w.Heap().Get(1, value.Text(name)).O)
		return o
	}
	for name, want := range map[string][3]int{"f": {1, 1, 1}, "g": {1, 2, 2}, "h": {1, 3, 2}} {
		if o := object(name); o.K != api.Func || [3]int{o.A, o.B, len(o.Slots)} != want {
			t.Errorf("%s is %v, not a Func of %v", name, o, want)
		}
	}
	if o := object("t"); o.K != api.Table || len(o.Keys) != 0 || o.Meta != (api.Value{}) {
		t.Errorf("t is %v", o)
	}
	a, b := object("f").Slots[0], object("g").Slots[0]
	for i, v := range []api.Value{a, b} {
		o, _ := w.Heap().Object(v.O)
		if v.K != api.Box || o.K != api.Box || o.A != 0 || o.B != 0 || len(o.Slots) != 1 || o.Slots[0] != num(float64(5+i)) {
			t.Errorf("the variable %d is %v: %v", i, v, o)
		}
	}
	if g, h := object("g").Slots, object("h").Slots; g[1] != a || h[0] != b || h[1] != a {
		t.Errorf("g shares %v, h shares %v, not %v and %v", g, h, a, b)
	}
}

// P17.3: the arguments are the parameters in order; missing ones are Nil, others are lost.
func TestArguments(t *testing.T) {
	for params := range 5 {
		for args := range 6 {
			names, given, want := []string{}, []string{}, ""
			for i := range params {
				names = append(names, "p"+strconv.Itoa(i))
				if i < args {
					want += strconv.Itoa(i + 1)
				} else {
					want += "nil"
				}
			}
			for i := range args {
				given = append(given, strconv.Itoa(i+1))
			}
			s := "local function f(" + strings.Join(names, ", ") + ") local x local s = \"\" "
			for _, name := range names {
				s += "s = s .. tostring(" + name + ") "
			}
			s += "return s .. tostring(x) end return f(" + strings.Join(given, ", ") + ")"
			if got := mustTell(t, s); got != want+"nil" {
				t.Errorf("%s: %s, not %s", s, got, want)
			}
		}
	}
	// 30 of each.
	names, given := "p0", "0"
	for i := 1; i < 30; i++ {
		names, given = names+", p"+strconv.Itoa(i), given+", "+strconv.Itoa(i)
	}
	if got := mustTell(t, "return (function("+names+") return p0 .. p1 .. p28 .. p29 end)("+given+")"); got != "012829" {
		t.Errorf("30 arguments: %s", got)
	}
}

// P17.6: a call of what is no function, and what a function answers.
func TestCalls(t *testing.T) {
	for s, want := range map[string]string{
		"g()": "!call", "return (5)()": "!call", `return ("type")(1)`: "!call", "return ({})()": "!call", "return (true)()": "!call", "return (create(type))()": "!call",
		"return (function() end)()": "nil", "return (function() return end)()": "nil", "return (function() return 7 end)()": "7",
		"return type(type(1))": "string", "local f = type return f(f)": "function",
		"local function f() local function g() return 5 end return g() + 1 end return f()":                                        "6",
		"local function f(n) if n == 0 then return 0 end return n + f(n - 1) end return f(100)":                                   "5050",
		"local function f(g, x) return g(g, x) end return f(function(g, x) if x > 3 then return x end return g(g, x + 1) end, 1)": "4",
		"local x = 1 local function f() x = x + 1 return x end return f() + f() * f()":                                            "14",
	} {
		if got := mustTell(t, s); got != want {
			t.Errorf("%s: %s, not %s", s, got, want)
		}
	}
}

// P17.5, P17.9: functions share variables, each time that a variable comes another one.
func TestClosures(t *testing.T) {
	for s, want := range map[string]string{
		"local f = {} for i = 1, 3 do f[i] = function() i = i + 1 return i end end return f[1]() .. f[1]() .. f[3]()":                                                          "234",
		"local x = 1 local function f() x = x + 1 end local function g() return x end f() f() return g()":                                                                      "3",
		"local f = {} local i = 0 while i < 3 do i = i + 1 local j = i f[i] = function() j = j + 10 return j end end return f[1]() .. f[2]() .. f[1]() .. f[3]()":              "11122113",
		"local function make() local n = 0 return function() n = n + 1 return n end end local a = make() local b = make() a() return a() .. b()":                               "21",
		"local function make(n) return {function() n = n + 1 end, function() return n end} end local p = make(5) local q = make(7) p[1]() return p[2]() .. q[2]()":             "67",
		"local x = 1 local f = function() return x end local x = 2 return f() .. x":                                                                                            "12",
		"local x = 1 do local x = 2 f = function() return x end end x = 3 return f() .. x":                                                                                     "23",
		"local a = 1 local function f() return function() return function() a = a + 1 return a end end end return f()()() .. f()()() .. a":                                     "233",
		"local function even(n) if n == 0 then return true end return odd(n - 1) end odd = function(n) if n == 0 then return false end return even(n - 1) end return even(10)": "true",
		"for i = 1, 3 do local j = i i = 10 last = j end return last":                                                                                                          "3",
		"local s = 0 for i = 1, 3 do i = i * 2 s = s + i end return s":                                                                                                         "12",
		"local f for i = 1, 2 do if f == nil then f = function() return i end end end return f()":                                                                              "1",
		"local x = x return x":                               "nil",
		"x = 5 local x = x return x":                         "5",
		"local f = function() return f end return type(f())": "nil",
		"local function f() return f end return type(f()())": "function",
		"local n = 0 local t = {} for i = 1, 2 do local v t[i] = function() n = n + 1 v = (v or 0) + n return v end end t[1]() t[2]() return t[1]() .. t[2]()": "46",
	} {
		if got := mustTell(t, s); got != want {
			t.Errorf("%s: %s, not %s", s, got, want)
		}
	}
}
