package comp_test

import (
	"math/rand"
	"strconv"
	"strings"
	"testing"

	"minstrel/api"
	"minstrel/comp"
	"minstrel/prog"
	"minstrel/scope"
	"minstrel/value"
)

// P14.1: the example of the chapter.
func TestExample(t *testing.T) {
	p, at, e := comp.Script("return 1")
	if at != 0 || e != api.OK || len(prog.Flat(p)) != 1 || p.Params != 0 || len(p.Ups) != 0 {
		t.Error(p, at, e)
	}
	if out := runOrders(p, 2, roomy); out.End != api.Done || out.V != number(1) || out.Fuel != 0 {
		t.Error(told(out))
	}
	if out := runOrders(p, 1, roomy); out.End != api.NoFuel {
		t.Error(told(out))
	}
}

// mustAnswer: a script ends so, with this answer or error, having paid so much and taken so many cells.
func mustAnswer(t *testing.T, s string, end int, answer string, cost, room int) {
	t.Helper()
	x, ok := mustTell(t, s)
	if !ok {
		t.Fatalf("%s: is not taken", s)
	}
	out := runOrders(x.p, api.MaxFuel, roomy)
	if out.End != end || value.Show(out.V) != answer || api.MaxFuel-out.Fuel != cost || used(out)-atFirst != room {
		t.Errorf("%s: %d %s, %d paid, %d cells; want %d %s, %d, %d", s, out.End, value.Show(out.V), api.MaxFuel-out.Fuel, used(out)-atFirst, end, answer, cost, room)
	}
	mustRun(t, x, api.MaxFuel, roomy)
	for fuel := range min(cost, 200) {
		if out := mustRun(t, x, fuel, roomy); out.End != api.NoFuel {
			t.Errorf("%s: with %d: %s", s, fuel, told(out))
		}
	}
	for less := range room {
		if out := mustRun(t, x, api.MaxFuel, atFirst+less); out.End != api.NoRoom {
			t.Errorf("%s: with %d cells: %s", s, less, told(out))
		}
	}
}

// P14.1: what scripts cost and take, reckoned by hand from P17.9 (constants, variables, signs, calls, functions: 1 each, and or: nothing).
func TestCosts(t *testing.T) {
	for _, c := range []struct {
		s, answer  string
		cost, room int
	}{
		{"", "nil", 0, 0},
		{"return", "nil", 1, 0},
		{"return;", "nil", 1, 0},
		{"return 1", "1", 2, 0},
		{"return nil", "nil", 2, 0},
		{"return false", "false", 2, 0},
		{"return true", "true", 2, 0},
		{`return "a\n"`, "a\n", 2, 0},
		{"return 1e999", "inf", 2, 0},
		{"return g", "nil", 2, 0},
		{"return 1 + 2", "3", 4, 0},
		{"return (((1)))", "1", 2, 0},
		{"return -1", "-1", 3, 0},
		{"return not nil", "true", 3, 0},
		{`return #"abc"`, "3", 3, 0},
		{"return - - -2", "-2", 5, 0},
		{"return 1 and 2", "2", 3, 0},
		{"return nil and 2", "nil", 2, 0},
		{"return false and g()", "false", 2, 0},
		{"return 1 or 2", "1", 2, 0},
		{"return 1 or g()", "1", 2, 0},
		{"return nil or 2", "2", 3, 0},
		{"return nil and 1 or false and 2 or 3", "3", 4, 0},
		{"return 1 and 2 and nil and 4 or 5", "5", 5, 0},
		{"local a", "nil", 0, 0},
		{"local a local a return a", "nil", 2, 0},
		{"local a = 1", "nil", 1, 0},
		{"local a = 1 return a", "1", 3, 0},
		{"local a = 1 local a = a + 1 return a", "2", 6, 0},
		{"local a = 1 a = 2 return a", "2", 5, 0},
		{"a = 1", "nil", 2, 1},
		{"a = 1 return a", "1", 4, 1},
		{"a = nil", "nil", 2, 0},
		{"do local a = 1 end return a", "nil", 3, 0},
		{"do do do end end end", "nil", 0, 0},
		{"return {}", "table", 2, 1},
		{"return {1}", "table", 5, 2},
		{"return {1, 2;}", "table", 8, 3},
		{"return {nil, 2}", "table", 8, 2},
		{"return {x = 1}", "table", 5, 2},
		{"return {[1] = 2}", "table", 5, 2},
		{"return {1, [1] = 2, 3}", "table", 11, 3},
		{"return {{{}}}", "table", 8, 5},
		{"return ({4, x = 5, 6})[2]", "6", 13, 4},
		{"return ({4, x = 5, 6}).x", "5", 13, 4},
		{"local t = {} t.x = 1 return t.x", "1", 9, 2},
		{`local t = {} t["x"] = 1 return t["x"]`, "1", 9, 2},
		{"t = {} t.t = t t.t.t.x = 3 return t.x", "3", 18, 4},
		{"return note(1)", "1", 4, 0},
		{"note(1, 2)", "nil", 4, 0},
		{"return note()", "nil", 3, 0},
		{"local function f() end", "nil", 2, 1},
		{"local f = function() end", "nil", 1, 1},
		{"local function f() return f end", "nil", 2, 4},
		{"local f = function() return f end return f()", "nil", 6, 1},
		{"local function f() return f end return f() == f", "true", 9, 4},
		{"local f = function() end return f()", "nil", 4, 1},
		{"f = function() return 1 end return f() + f()", "2", 12, 2},
		{"local function f(a, b) return b end return f(1)", "nil", 8, 1},
		{"local function f(a, b) return b end return f(1, 2, 3)", "2", 10, 1},
		{"return (function(a, a) return a end)(1, 2)", "2", 7, 1},
		{"local a return function() return a end", "function", 2, 4},
		{"local a = 5 return (function() return a end)()", "5", 6, 4},
		{"local a = 5 local function f() a = a + 1 end f() f() return a", "7", 17, 4},
		{"local function f(a) return function() return a end end return f(1)()", "1", 11, 5},
		{"local a return function() return function() return a end end", "function", 2, 4},
		{"if true then end", "nil", 1, 0},
		{"if nil then a = 1 else b = 1 end", "nil", 3, 1},
		{"if 1 then a = 1 else b = 1 end return b", "nil", 5, 1},
		{"if nil then elseif 1 then a = 2 end return a", "2", 6, 1},
		{"if nil then elseif nil then else a = 2 end return a", "2", 6, 1},
		{"while nil do end", "nil", 1, 0},
		{"while true do break end", "nil", 1, 0},
		{"while true do return 5 end", "5", 3, 0},
		{"while true do do break end end return 1", "1", 3, 0},
		{"local i = 0 while i < 3 do i = i + 1 end", "nil", 28, 0},
		{"local i = 0 while true do i = i + 1 if i > 2 then break end end return i", "3", 29, 0},
		{"for i = 1, 0 do end", "nil", 4, 0},
		{"for i = 1, 3 do end", "nil", 7, 0},
		{"for i = 1, 3, 1 do end", "nil", 7, 0},
		{"for i = 1, 3, 5 do end", "nil", 5, 0},
		{"for i = 3, 1, -1 do end", "nil", 8, 0},
		{"for i = 1, 3, -1 do end", "nil", 5, 0},
		{"for i = 1, 3 do break end", "nil", 4, 0},
		{"for i = 1, 3 do return i end", "1", 6, 0},
		{"for i = 1, 3 do i = i * 2 end", "nil", 19, 0},
		{"for i = 1, 3 do local f = function() return i end end", "nil", 10, 12},
		{"for i = 1, 3 do local a = function() return function() return i end end end", "nil", 10, 12},
	} {
		mustAnswer(t, c.s, api.Done, c.answer, c.cost, c.room)
	}
}

// P14.1: what is paid and made until an error.
func TestErrors(t *testing.T) {
	for _, c := range []struct {
		s, answer  string
		cost, room int
	}{
		{"error(1)", "1", 3, 0},
		{"return nil + 1", "arith", 3, 0},
		{"return -nil", "arith", 2, 0},
		{"return #1", "len", 2, 0},
		{"return 1 .. nil", "concat", 3, 0},
		{`return 1 < "a"`, "compare", 3, 0},
		{"return g.x", "index", 3, 0},
		{"g.x = 1", "index", 4, 0},
		{"g()", "call", 2, 0},
		{"g(1, 2)", "call", 4, 0},
		{"return {error(2)}", "2", 4, 1},
		{"return {1, error(2), 3}", "2", 7, 2},
		{"return {x = error(2)}", "2", 5, 1},
		{"return {[error(2)] = 1}", "2", 4, 1},
		{"return {[nil] = 1}", "key", 4, 1},
		{"return {[nil] = error(5)}", "5", 5, 1},
		{"x.y = error(3)", "3", 5, 0},
		{"error(1)[error(2)] = error(3)", "1", 3, 0},
		{"({})[error(2)] = error(3)", "2", 4, 1},
		{"local a = error(3)", "3", 3, 0},
		{"local a = error(3) return function() return a end", "3", 3, 0},
		{"a = error(3)", "3", 3, 0},
		{"return error(3)", "3", 3, 0},
		{"return 1 + error(3)", "3", 4, 0},
		{"return error(3) + error(4)", "3", 3, 0},
		{"return g(error(3), error(4))", "3", 4, 0},
		{"return error(1)(error(3))", "1", 3, 0},
		{"if error(3) then end", "3", 3, 0},
		{"while error(3) do end", "3", 3, 0},
		{"while true do error(3) end", "3", 4, 0},
		{"for i = 1, nil do end", "for", 4, 0},
		{"for i = nil, 1 do end", "for", 4, 0},
		{`for i = 1, 1, "1" do end`, "for", 4, 0},
		{"for i = 1, 2, 0 do end", "for", 4, 0},
		{"for i = 1, 2, -0 do end", "for", 5, 0},
		{"for i = error(1), error(2), error(3) do end", "1", 3, 0},
		{"for i = 1, error(2), error(3) do end", "2", 4, 0},
		{"for i = 1, 2, error(3) do end", "3", 5, 0},
		{"for i = 1, 2 do error(i) end", "1", 7, 0},
	} {
		mustAnswer(t, c.s, api.Failed, c.answer, c.cost, c.room)
	}
}

// P14.1: variables, shared and not, each anew where chapter 17 says so; answers by hand.
func TestVariables(t *testing.T) {
	for s, want := range map[string]string{
		`local l = {} for i = 1, 3 do l[i] = function() i = i + 10 return i end end return l[1]() .. "," .. l[1]() .. "," .. l[2]() .. "," .. l[3]()`:                "11,21,12,13",
		`local l = {} local i = 0 while i < 3 do i = i + 1 local j = i l[i] = function() j = j + i return j end end return l[1]() .. "," .. l[1]() .. "," .. l[2]()`: "4,7,5",
		`local n = 0 for i = 1, 3 do i = 10 n = n + 1 end return n`:                                                                                                                                        "3",
		`local n = 0 for i = 1, 3 do local f = function() i = 10 end f() n = n + i end return n`:                                                                                                           "30",
		`local r = "" for i = 1, 3 do local a r = r .. (a == nil and "n" or "v") a = i end return r`:                                                                                                       "nnn",
		`local r = "" for i = 1, 3 do local a local f = function() a = i end r = r .. (a == nil and "n" or "v") f() end return r`:                                                                          "nnn",
		`local r = "" for i = 1, 2 do do local x = 5 local y = 6 end local a local b r = r .. (a or "n") .. (b or "n") end return r`:                                                                       "nnnn",
		`local function f(n) if n < 2 then return 1 end return n * f(n - 1) end return f(6)`:                                                                                                               "720",
		`local function f(n) local m = n local g = function() return m end if n > 0 then f(n - 1) end return g() + m + n end return f(3)`:                                                                  "9",
		`local f = 1 local function g() return f end local f = 2 return g() + f`:                                                                                                                           "3",
		`local f = 1 local f = function() return f end return f()`:                                                                                                                                         "1",
		`local f = 1 local function f() return f end return f() == f`:                                                                                                                                      "true",
		`local a = 1 do local a = 2 do local a = 3 end a = a + 1 g = a end return a .. "," .. g`:                                                                                                           "1,3",
		`local a = 1 local function up() a = a + 1 return a end local b = a + up() + a + up() return b`:                                                                                                    "8",
		`local a = 1 a = a + 1 local b = a a = 7 return b`:                                                                                                                                                 "2",
		`local t = {} local k = 1 local function next() k = k + 1 return k end t[k] = next() t[next()] = k return t[1] .. "," .. t[3]`:                                                                     "2,3",
		`local function swap(a, b) local function g() local c = a a = b b = c end g() return a .. "," .. b end return swap(1, 2) .. "," .. swap(3, 4)`:                                                     "2,1,4,3",
		`local c = 0 local function counter() local n = 0 return function() n = n + 1 c = c + 1 return n end end local x = counter() local y = counter() x() x() y() return x() .. "," .. y() .. "," .. c`: "3,2,5",
		`local r = "" for i = 1, 3 do for j = 1, 3 do if j == 2 then break end r = r .. i .. j .. " " end if i == 2 then break end end return r`:                                                           "11 21 ",
		`local r = "" local i = 0 while true do i = i + 1 local j = 0 while true do j = j + 1 if j > i then break end if i > 3 then break end r = r .. j end if i == 5 then break end end return r`:        "112123",
		`for i = 1, 10 do while true do for j = 1, 10 do if j == 4 then return i .. "," .. j end end break end end`:                                                                                        "1,4",
		`local x = 1 while true do local x = x + 1 if x then break end end return x`:                                                                                                                       "1",
		`local n = 0 for i = 1, 2 do for i = i, 3 do n = n + i end end return n`:                                                                                                                           "11",
		`local n = "" for i = 1, 2.5, 0.5 do n = n .. i .. " " end return n`:                                                                                                                               "1 1.5 2 2.5 ",
		`local t = {1, x = 2, 3, [5] = 4, 6} return t[1] .. t[2] .. t[3] .. t[5] .. t.x .. #t`:                                                                                                             "136423",
		`local a = nil and 1 local b = false or nil local c = 1 and 2 local d = nil or 3 return (a == nil and "n" or "") .. (b == nil and "n" or "") .. c .. d`:                                            "nn23",
		`local function f(a, b, c) return (a or "-") .. (b or "-") .. (c or "-") end return f() .. f(1) .. f(1, 2) .. f(1, 2, 3) .. f(1, 2, 3, 4)`:                                                         "---1--12-123123",
		`return 2 - 1 - 1 .. 2 * 3 / 4 % 2 .. (1 < 2 == true and 1 or 0)`:                                                                                                                                  "01.51",
	} {
		x, ok := mustTell(t, s)
		if !ok {
			t.Fatal(s)
		}
		if out := mustRun(t, x, api.MaxFuel, roomy); out.End != api.Done || value.Show(out.V) != want {
			t.Errorf("%s: %s; want %s", s, told(out), want)
		}
	}
}

// P14.1: the parts of each kind of exp and statement come in the order of the text; the table and the key of an assignment ahead of the value.
func TestOrderOfParts(t *testing.T) {
	for s, want := range map[string]string{
		"return n(1) + n(2) * n(3)":                    "123",
		"return (n(1) .. n(2)) .. n(3) .. n(4)":        "1234",
		"return n(1) < n(2)":                           "12",
		"return t(1)[n(2)]":                            "12",
		"return f(1)(n(2), n(3), n(4))":                "1234",
		"f(1)(n(2))":                                   "12",
		"t(1)[n(2)] = n(3)":                            "123",
		"t(1)[n(2)][n(3)] = n(4)":                      "1234",
		"x = n(1)":                                     "1",
		"return {n(1), [n(2)] = n(3), x = n(4), n(5)}": "12345",
		"for i = n(1), n(3), n(2) do n(4) end":         "13244",
		"while n(1) > 2 do n(2) end":                   "1",
		"if n(1) > 1 then n(2) elseif n(3) > 2 then n(4) else n(5) end": "134",
		"return n(1) and n(2) or n(3)":                                  "12",
		"return n(1) > 1 and n(2) or n(3)":                              "13",
		"local a = n(1) local function b() n(3) end local c = n(2) b()": "123",
	} {
		full := "local function n(v) note(v) return v end local function t(v) note(v) return {} end local function f(v) note(v) return function() end end " + s
		x, ok := mustTell(t, full)
		if !ok {
			t.Fatal(s)
		}
		var got strings.Builder
		for _, note := range mustRun(t, x, api.MaxFuel, roomy).notes {
			got.WriteString(note[:strings.Index(note, " ")])
		}
		if got.String() != want {
			t.Errorf("%s: %s; want %s", s, got.String(), want)
		}
	}
}

// P14.1, P14.2, P14.3: scripts by chance.
func TestByChance(t *testing.T) {
	r := rand.New(rand.NewSource(14))
	ends := map[int]int{}
	for i := range 5000 {
		m := &maker{r: r, wrong: []int{0, 100, 30}[i%3]}
		s := m.script(1 + i%4)
		if _, _, e := scope.Script(s); e != api.OK {
			t.Fatalf("%s: %d", s, e)
		}
		ends[mustDo(t, r, s, 4000, 2).End]++
	}
	for _, end := range []int{api.Done, api.Failed, api.NoFuel} {
		if ends[end] < 100 {
			t.Errorf("%d: only %d of %v", end, ends[end], ends)
		}
	}
}

// P14.1: functions in one another up to the machine's limit.
func TestCallsInOneAnother(t *testing.T) {
	for _, deep := range []int{1, 50, 198, 199, 200, 300} {
		s := "local function f(n) if n > 1 then return 1 + f(n - 1) end return 1 end return f(" + strconv.Itoa(deep) + ")"
		x, _ := mustTell(t, s)
		want := api.Done
		if deep >= api.MaxCalls {
			want = api.NoStack
		}
		if out := mustRun(t, x, api.MaxFuel, roomy); out.End != want {
			t.Errorf("%d: %s", deep, told(out))
		}
	}
}
