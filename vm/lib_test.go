package vm_test

import (
	"math"
	"strconv"
	"strings"
	"testing"

	"minstrel/api"
	"minstrel/rand"
	"minstrel/value"
)

// P17.7: the built-in functions by hand: ordinary arguments, edges, too few, too many, wrong kinds.
func TestLibrary(t *testing.T) {
	for s, want := range map[string]string{
		"type()": "nil", "type(nil)": "nil", "type(true)": "boolean", "type(false)": "boolean", "type(1)": "number", `type("")`: "string", "type({})": "table", "type(type)": "function", "type(function() end)": "function", "type(create(type))": "thread", "type(1, {})": "number",
		"tostring()": "nil", "tostring(nil)": "nil", "tostring(true)": "true", "tostring(-0)": "-0", "tostring(0.1)": "0.1", "tostring(1e21)": "1e+21", "tostring(0/0)": "nan", `tostring("a")`: "a", "tostring({})": "table", "tostring(type)": "function", "tostring(create(type))": "thread", "type(tostring(5))": "string", "tostring(1, 2)": "1",
		"tonumber()": "nil", "tonumber(nil)": "nil", "tonumber(5)": "5", `tonumber("5")`: "5", `tonumber("-1.5e1")`: "-15", `tonumber("")`: "nil", `tonumber("x")`: "nil", `tonumber(" 1")`: "nil", `tonumber("--1")`: "nil", `tonumber("-0")`: "-0", `tonumber("inf")`: "nil", "tonumber({})": "nil", "tonumber(true)": "nil", "tonumber(type)": "nil", `type(tonumber("1"))`: "number", `tonumber("7", 8)`: "7", "tonumber(0/0)": "nan",
		"error()": "!nil", "error(nil)": "!nil", `error("x")`: "!x", "error(5)": "!5", "error({})": "!table", "error(1, 2)": "!1", "error(false)": "!false",
		"next({})": "nil", "next({5})": "1", `next({x = 1})`: "x", "next({5, 6}, 1)": "2", "next({5, 6}, 2)": "nil", "next({5}, 7)": "!key", "next({5}, 0/0)": "!key", "next({5}, {})": "!key", "next({5}, nil)": "1", "next({5}, nil, 3)": "1", "next()": "!index", "next(nil)": "!index", "next(5)": "!index", `next("a")`: "!index", "next(type)": "!index", "next({[true] = 1})": "true", "next({[-0] = 1})": "0", "next({5, 6}, 1.0)": "2", `next({5}, "1")`: "!key",
		"getmeta({})": "nil", "getmeta(setmeta({}, {}))": "table", "getmeta(setmeta({}, nil))": "nil", "getmeta()": "!index", "getmeta(5)": "!index", `getmeta("a")`: "!index", "getmeta(type)": "!index", "type(getmeta({}, {}))": "nil",
		"setmeta({}, {})": "table", "setmeta({})": "table", "setmeta({}, nil)": "table", "setmeta({}, 5)": "!index", `setmeta({}, "a")`: "!index", "setmeta({}, false)": "!index", "setmeta({}, type)": "!index", "setmeta({}, create(type))": "!index", "setmeta()": "!index", "setmeta(nil, {})": "!index", "setmeta(5, {})": "!index", "setmeta(type, {})": "!index",
		"create()": "!call", "create(5)": "!call", "create({})": "!call", `create("type")`: "!call", "create(create(type))": "!call", "create(type)": "thread", "create(function() end)": "thread", "status(create(type, 5))": "suspended",
		"resume()": "!resume", "resume(nil)": "!resume", "resume(5)": "!resume", "resume({})": "!resume", "resume(type)": "!resume", "resume(function() end)": "!resume",
		"status()": "!resume", "status(5)": "!resume", "status({})": "!resume", "status(type)": "!resume", "status(create(error))": "suspended",
		"yield()": "!yield", "yield(1)": "!yield", "yield(1, 2)": "!yield",
		"floor(2.5)": "2", "floor(-2.5)": "-3", "floor(-0)": "-0", "floor(1/0)": "inf", "floor(0/0)": "nan", "floor(1e300)": "1e+300", "floor()": "!arith", `floor("2")`: "!arith", "floor(true)": "!arith", "floor({})": "!arith", "floor(1.5, 2)": "1",
		"sqrt(9)": "3", "sqrt(2)": "1.4142135623730951", "sqrt(-1)": "nan", "sqrt(-0)": "-0", "sqrt(1/0)": "inf", "sqrt()": "!arith", `sqrt("4")`: "!arith", "sqrt({})": "!arith",
		"abs(-2)": "2", "abs(2)": "2", "abs(-0)": "0", "abs(-1/0)": "inf", "abs(0/0)": "nan", "abs()": "!arith", `abs("1")`: "!arith", "abs(type)": "!arith",
		`sub("hello", 2)`: "ello", `sub("hello", 2, 3)`: "el", `sub("hello", -3, -2)`: "ll", `sub("hello", 2, nil)`: "ello", `sub("hello", 0)`: "hello", `sub("hello", 4, 99)`: "lo", `sub("hello", 3, 2)`: "", `sub("", 1)`: "", `sub("abc", -9e18, 9e18)`: "abc", `sub("abc", 2.0)`: "bc", `sub("abc", 1, 2, 3)`: "ab",
		`sub("abc")`: "!arith", `sub("abc", nil, 2)`: "!arith", `sub("abc", 1.5)`: "!arith", `sub("abc", 1, 1.5)`: "!arith", `sub("abc", "1")`: "!arith", `sub("abc", 1, "2")`: "!arith", `sub("abc", 1/0)`: "!arith", `sub("abc", 0/0)`: "!arith", `sub("abc", 1, 1/0)`: "!arith", `sub("abc", 1e19)`: "!arith", `sub("abc", 1, false)`: "!arith", "sub()": "!text", "sub(5, 1)": "!text", "sub(nil, 1)": "!text", "sub({}, 1)": "!text", `sub(123, "x")`: "!text", `sub("abc", 1, -1e19)`: "!arith", `sub("abc", -9223372036854775808)`: "abc", `sub("abc", 9223372036854775808)`: "!arith",
		`byte("abc")`: "97", `byte("abc", 2)`: "98", `byte("abc", -1)`: "99", `byte("abc", nil)`: "97", `byte("abc", 0)`: "nil", `byte("abc", 4)`: "nil", `byte("")`: "nil", `byte("abc", 1.5)`: "!arith", `byte("abc", "1")`: "!arith", `byte("abc", true)`: "!arith", "byte()": "!text", "byte(97)": "!text", "byte({}, 1)": "!text", `byte(char(255))`: "255", `byte(char(0))`: "0", `byte("abc", 2, 3)`: "98",
		"char(65)": "A", "#char(0)": "1", "#char(255)": "1", "char(-1)": "!text", "char(256)": "!text", "char(65.5)": "!arith", "char()": "!arith", `char("65")`: "!arith", "char(1/0)": "!arith", "char(1e18)": "!text", "char(1e19)": "!arith", "char(66, 67)": "B", "char({})": "!arith", "#char(-0)": "1",
		`rep("ab", 3)`: "ababab", `rep("ab", 0)`: "", `rep("ab", -1)`: "", `rep("", 9e18)`: "", `#rep("a", 16384)`: "16384", `rep("a", 16385)`: "!long", `rep("ab", 8193)`: "!long", `#rep("ab", 8192)`: "16384", `rep("ab", 9e18)`: "!long", `rep("a")`: "!arith", `rep("a", nil)`: "!arith", `rep("a", 1.5)`: "!arith", `rep("a", "2")`: "!arith", "rep()": "!text", "rep(5, 2)": "!text", `rep(nil, "x")`: "!text", `rep("x", 2, 3)`: "xx",
		`find("aXbX", "X")`: "2", `find("aXbX", "X", 3)`: "4", `find("aXbX", "X", -1)`: "4", `find("aXbX", "Y")`: "nil", `find("abc", "")`: "1", `find("abc", "", 4)`: "4", `find("abc", "", 5)`: "nil", `find("abc", "c", nil)`: "3", `find("abc", "a", 1.5)`: "!arith", `find("abc", "a", "1")`: "!arith", `find("abc", "a", {})`: "!arith", `find("abc")`: "!text", `find("abc", 1)`: "!text", `find(1, "a")`: "!text", "find()": "!text", `find("abc", nil, "x")`: "!text", `find("", "")`: "1", `find("", "", 2)`: "nil", `find("a.b", ".")`: "2", `find("abc", "b", 1, 9)`: "2",
		`upper("aBz1")`: "ABZ1", `upper("")`: "", "upper()": "!text", "upper(5)": "!text", "upper({})": "!text", `upper("a", 5)`: "A",
		`reverse("abc")`: "cba", `reverse("")`: "", "reverse()": "!text", "reverse(12)": "!text", "reverse(nil)": "!text", `reverse("ab", "c")`: "ba",
		"random(0)": "!arith", "random(-1)": "!arith", "random(1.5)": "!arith", `random("5")`: "!arith", "random(true)": "!arith", "random({})": "!arith", "random(1/0)": "!arith", "random(0/0)": "!arith", "random(1e19)": "!arith", "random(0.5)": "!arith", "random(-0)": "!arith", "random(1)": "1",
	} {
		if got := mustTell(t, "return "+s); got != want {
			t.Errorf("%s = %s, not %s", s, got, want)
		}
	}
}

// arguments are exps of each kind, and of the numbers and texts that built-in functions tell apart.
var arguments = []string{"nil", "true", "0", "1", "2", "-1", "2.5", "300", "9e18", "1e19", "0/0", `""`, `"b"`, `"abcab"`, `"-12"`, "t", "u", "function() end", "error", "yield", "pcall", "c"}

// P17.7: each built-in function, as such and by pcall, with no argument, with each one and each two of each kind, and with some more: as the tests' own bench answers.
func TestLibraryOfKinds(t *testing.T) {
	const ahead = `t = {5, 6, [true] = 7} u = setmeta({[2.5] = 1, b = 2}, t) c = create(function(x) return yield(x) end) `
	try := func(name string, args ...string) {
		t.Helper()
		of := strings.Join(args, ", ")
		newWorlds(t, 200, uint64(len(of))).script(t, ahead+"p = pcall("+strings.Join(append([]string{name}, args...), ", ")+") return "+name+"("+of+")", 1000)
	}
	for _, name := range libNames {
		try(name)
		for i, a := range arguments {
			try(name, a)
			for k, b := range arguments {
				try(name, a, b)
				try(name, a, b, arguments[(3*i+k)%len(arguments)], "9")
			}
		}
	}
	for _, a := range []string{"5", `""`, `"abcab"`} {
		for _, b := range arguments {
			for _, c := range arguments {
				try("sub", a, b, c)
				try("find", `"abcab"`, a, b, c)
				try("find", a, `"b"`, c, b)
			}
		}
	}
}

// P17.7: random goes by the world's state, number by number, and leaves the state behind in it, for scripts that follow too.
func TestRandom(t *testing.T) {
	for _, seed := range []uint64{0, 7, math.MaxUint64} {
		w := newWorlds(t, 1000, seed)
		state := seed
		for i := range 40 {
			n := uint64(i*i*i + 1)
			if i > 30 {
				n = 1 << (i + 20)
			}
			o := w.script(t, "return {random(), random("+strconv.FormatUint(n, 10)+")}", 100)
			var unit api.Num
			var below uint64
			state, unit = rand.Unit(state)
			state, below = rand.Below(state, n)
			h := w.w.Heap()
			if got := h.Get(o.V.O, num(1)); got != value.Num(unit) {
				t.Errorf("random() = %v, not %x", got, unit)
			}
			if got := h.Get(o.V.O, num(2)); got != num(float64(below+1)) {
				t.Errorf("random(%d) = %v, not %d", n, got, below+1)
			}
			if w.w.Seed() != state {
				t.Errorf("the state is %x, not %x", w.w.Seed(), state)
			}
		}
		w.script(t, "pcall(random, 0) pcall(random, {}) local x = random", 100)
		if w.w.Seed() != state {
			t.Error("what draws no number changes the state")
		}
	}
}

// P17.7: a random number up to a great one is 1 and the number below it, rounded once.
func TestRandomGreat(t *testing.T) {
	for seed := range uint64(300) {
		w := newWorlds(t, 100, seed)
		o := w.script(t, "return random(9007199254740992 * 1000)", 100)
		_, below := rand.Below(seed, 9007199254740992*1000)
		if o.V != num(float64(below+1)) {
			t.Errorf("of the state %d: %v, not %d", seed, o.V, below+1)
		}
	}
}

// P17.7: pcall: what it calls, with which arguments, what it catches, and pcalls within one another.
func TestPcall(t *testing.T) {
	const show = "local function show(r) return tostring(r[1]) .. \" \" .. tostring(r[2]) end "
	for s, want := range map[string]string{
		"show(pcall(type, 1))": "true number", "show(pcall(function() end))": "true nil", "show(pcall(function(a, b, c) return a .. b .. tostring(c) end, 1, 2))": "true 12nil",
		"show(pcall(error, \"x\"))": "false x", "show(pcall(error))": "false nil", "show(pcall(error, {}))": "false table", "show(pcall(function() error(5) end))": "false 5",
		"show(pcall())": "false call", "show(pcall(nil))": "false call", "show(pcall(5))": "false call", "show(pcall(\"type\"))": "false call", "show(pcall({}, 1))": "false call", "show(pcall(create(type)))": "false call",
		"show(pcall(function() return 1 + nil end))": "false arith", "show(pcall(function() return g.x end))": "false index", "show(pcall(function() g() end))": "false call", "show(pcall(yield, 1))": "false yield", "show(pcall(resume, 1))": "false resume", "show(pcall(next, 1))": "false index", "show(pcall(sub, 1))": "false text",
		"show(pcall(pcall, error, 3))": "true table", "show(pcall(pcall, error, 3)[2])": "false 3", "show(pcall(pcall)[2])": "false call", "show(pcall(pcall, pcall, pcall, error, 8)[2][2][2])": "false 8", "show(pcall(pcall, type, {})[2])": "true table",
		"show(pcall(function() local r = pcall(error, 1) error(r[2] + 1) end))":                                    "false 2",
		"show(pcall(function() pcall(error, 1) return 5 end))":                                                     "true 5",
		"show(pcall(function() local function f(n) if n == 0 then error(\"deep\") end f(n - 1) end f(50) end))":    "false deep",
		"show(pcall(function() return pcall(function() error(1) end)[2] + pcall(function() error(2) end)[2] end))": "true 3",
		"show(pcall(pcall(type, type)[2] == \"function\" and error, 6))":                                           "false 6",
		"#pcall(error)": "1", "#pcall(type)": "2", "#pcall(error, false)": "2", "next(pcall(error))": "1", "next(pcall(type), 1)": "2",
		"show(pcall(rep, \"a\", 1e9))": "false long", "show(pcall(create, 5))": "false call", "show(pcall(setmeta, {}, 5))": "false index", "show(pcall(random, 0))": "false arith",
	} {
		if got := mustTell(t, show+"return "+s); got != want {
			t.Errorf("%s = %s, not %s", s, got, want)
		}
	}
	// What came ahead of the error stays, and what comes behind the pcall goes on.
	if got := mustTell(t, "local x = 1 local r = pcall(function() x = 2 y = 3 error(4) x = 9 end) return x .. y .. r[2]"); got != "234" {
		t.Errorf("behind a pcall: %s", got)
	}
	// All 30 arguments of a pcall: what is called, and 29 others.
	names, given := "p1", "1"
	for i := 2; i < 30; i++ {
		names, given = names+", p"+strconv.Itoa(i), given+", "+strconv.Itoa(i)
	}
	if got := mustTell(t, "return pcall(function("+names+") return p1 .. p2 .. p28 .. p29 end, "+given+")[2]"); got != "122829" {
		t.Errorf("a pcall with 29 others: %s", got)
	}
}

// P17.7: a pcall's table is made when it is answered: behind what was made within.
func TestPairIsMadeAtTheEnd(t *testing.T) {
	for s, want := range map[string]int{
		"return pcall(type)":                                        2,
		"return pcall(function() return {} end)":                    4, // the function, its table, then the pair
		"return pcall(function() local t = {} error(t) end)":        4,
		"return pcall(pcall, pcall)":                                4,
		"return resume(create(type))":                               3,
		"return resume(create(function() return {} end))":           5,
		"return resume(create(function() error({}) end))":           5,
		"local c = create(type) resume(c) return resume(c)":         4,
		"return resume(create(function() yield({}) end))":           5,
		"return resume(create(function() pcall(type) yield() end))": 5,
	} {
		if o := newWorlds(t, 100, 7).script(t, s, 100); o.V != (api.Value{K: api.Table, O: want}) {
			t.Errorf("%s: %v, not the table %d", s, o, want)
		}
	}
}

// P17.7: getmeta tells what stands in now, however it came to: by this script, an earlier one, or the heap itself.
func TestGetmeta(t *testing.T) {
	for s, want := range map[string]string{
		"local t = {} local m = {} setmeta(t, m) return getmeta(t) == m":                                                                                       "true",
		"local t = {} local m = {} local r = setmeta(t, m) return r == t":                                                                                      "true",
		"local t = {} local m = {} getmeta(t) setmeta(t, m) local a = getmeta(t) setmeta(t, nil) return tostring(a == m) .. tostring(getmeta(t))":              "truenil",
		"local t = {} local m = {} setmeta(t, m) pcall(setmeta, t, 5) return getmeta(t) == m":                                                                  "true",
		"local t = {} setmeta(t, t) return getmeta(t) == t and t.x":                                                                                            "nil",
		"local t = {} local u = {} setmeta(t, {1}) setmeta(u, {2}) return getmeta(t)[1] .. getmeta(u)[1]":                                                      "12",
		"local t = {} getmeta(t) local l = {} for i = 1, 5 do l[i] = setmeta({}, {i}) end return getmeta(l[1])[1] .. getmeta(l[5])[1] .. tostring(getmeta(t))": "15nil",
	} {
		if got := mustTell(t, s); got != want {
			t.Errorf("%s: %s, not %s", s, got, want)
		}
	}
	w := fresh(t)
	runScript(t, w, "t = {} m = {7} getmeta(t)", 100)
	table, m := w.Heap().Get(1, value.Text("t")), w.Heap().Get(1, value.Text("m"))
	w.Heap().SetMeta(table.O, m)
	if o := runScript(t, w, "return getmeta(t)[1]", 100); shown(o) != "7" {
		t.Errorf("set in the heap: %v", o)
	}
	w.Heap().SetMeta(table.O, api.Value{})
	if o := runScript(t, w, "return getmeta(t)", 100); shown(o) != "nil" {
		t.Errorf("taken away in the heap: %v", o)
	}
}

// P17.7: next goes through all keys in the order in which they came.
func TestNext(t *testing.T) {
	for s, want := range map[string]string{
		"local t = {5, 6, x = 1, [true] = 2, 7}":                 "1 2 x true 3 ",
		"local t = {} t.b = 1 t.a = 2 t.b = nil t.c = 3 t.b = 4": "a c b ",
		"local t = {}":                                "",
		"local t = setmeta({1}, {x = 1})":             "1 ",
		"local t = {[type] = 1, [-0] = 2, [1.5] = 3}": "function 0 1.5 ",
	} {
		got := mustTell(t, s+" local s = \"\" local k = next(t) while k ~= nil do s = s .. tostring(k) .. \" \" k = next(t, k) end return s")
		if got != want {
			t.Errorf("%s: %s, not %s", s, got, want)
		}
	}
}
