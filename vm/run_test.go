package vm_test

import (
	"math"
	"strconv"
	"strings"
	"testing"

	"minstrel/api"
	"minstrel/value"
	"minstrel/vm"
)

// P17.2: Run with functions that Check refuses, and with fuel on both sides of what is allowed: the world stays as it is.
func TestRunRefuses(t *testing.T) {
	w := fresh(t)
	good := compiled(t, "x = random()")
	refuse := func(why string, p api.Proto, fuel int) {
		t.Helper()
		if o, e := w.Run(p, fuel); o != (api.Outcome{}) || e != api.ErrArg {
			t.Errorf("Run with %s, fuel %d = %v, %d, not ErrArg", why, fuel, o, e)
		}
	}
	for why, bad := range refused() {
		for _, fuel := range []int{-1, 0, 5, api.MaxFuel, api.MaxFuel + 1} {
			refuse(why, bad, fuel)
		}
	}
	for _, fuel := range []int{-1, -2, math.MinInt, api.MaxFuel + 1, math.MaxInt} {
		refuse("fuel", good, fuel)
	}
	mustBeNew(t, w, 7)
	for _, fuel := range []int{0, 1, 2, api.MaxFuel - 1, api.MaxFuel} {
		if o, e := w.Run(compiled(t, ""), fuel); o != (api.Outcome{Fuel: fuel}) || e != api.OK {
			t.Errorf("Run of nothing with fuel %d = %v, %d", fuel, o, e)
		}
	}
}

// P17.2: each end, with the value and the fuel that is left; the script is behind all others, however it ended.
func TestEnds(t *testing.T) {
	for _, c := range []struct {
		s          string
		fuel, room int
		want       api.Outcome
	}{
		{"return 1 + 2", 1000, 100, api.Outcome{V: num(3), Fuel: 996}},
		{"return 1 + 2", 4, 100, api.Outcome{V: num(3)}},
		{"return 1 + 2", 3, 100, api.Outcome{End: api.NoFuel}},
		{"return 1 + 2", 0, 100, api.Outcome{End: api.NoFuel}},
		{"", 0, 24, api.Outcome{}},
		{"return", 1, 24, api.Outcome{}},
		{"return", 0, 24, api.Outcome{End: api.NoFuel}},
		{"local x", 0, 24, api.Outcome{}},
		{"error()", 9, 24, api.Outcome{End: api.Failed, Fuel: 7}},
		{"error(7)", 9, 24, api.Outcome{End: api.Failed, V: num(7), Fuel: 6}},
		{"error(7)", 3, 24, api.Outcome{End: api.Failed, V: num(7)}},
		{"error(7)", 2, 24, api.Outcome{End: api.NoFuel}},
		{"error(type)", 9, 24, api.Outcome{End: api.Failed, V: api.Value{K: api.Lib}, Fuel: 6}},
		{"error({})", 9, 25, api.Outcome{End: api.Failed, V: api.Value{K: api.Table, O: 2}, Fuel: 6}},
		{"return -nil", 9, 24, api.Outcome{End: api.Failed, V: value.Text("arith"), Fuel: 7}},
		{"return {}", 9, 25, api.Outcome{V: api.Value{K: api.Table, O: 2}, Fuel: 7}},
		{"return {}", 9, 24, api.Outcome{End: api.NoRoom, Fuel: 8}},
		{"return {5}", 9, 25, api.Outcome{End: api.NoRoom, Fuel: 5}},
		{"return {5}", 9, 26, api.Outcome{V: api.Value{K: api.Table, O: 2}, Fuel: 4}},
		{"x = 1", 9, 24, api.Outcome{End: api.NoRoom, Fuel: 7}},
		{"x = 1", 9, 25, api.Outcome{Fuel: 7}},
		{"x = nil type = 1", 9, 24, api.Outcome{Fuel: 5}},
		{"type = nil x = 1", 9, 24, api.Outcome{Fuel: 5}},
		{"return function() end", 9, 24, api.Outcome{End: api.NoRoom, Fuel: 8}},
		{"return function() end", 9, 25, api.Outcome{V: api.Value{K: api.Func, O: 2}, Fuel: 7}},
		{"local a return function() return a end", 9, 25, api.Outcome{End: api.NoRoom, Fuel: 9}},
		{"local a return function() return a end", 9, 27, api.Outcome{End: api.NoRoom, Fuel: 8}},
		{"local a return function() return a end", 9, 28, api.Outcome{V: api.Value{K: api.Func, O: 3}, Fuel: 7}},
		{"return create(type)", 9, 25, api.Outcome{End: api.NoRoom, Fuel: 6}},
		{"return create(type)", 9, 26, api.Outcome{V: api.Value{K: api.Co, O: 2}, Fuel: 5}},
		{"return pcall(type)", 9, 24, api.Outcome{End: api.NoRoom, Fuel: 6}},
		{"return pcall(type)", 9, 25, api.Outcome{End: api.NoRoom, Fuel: 6}},
		{"return pcall(type)", 9, 26, api.Outcome{End: api.NoRoom, Fuel: 6}},
		{"return pcall(type)", 9, 27, api.Outcome{V: api.Value{K: api.Table, O: 2}, Fuel: 5}},
		{"return pcall(error)", 9, 26, api.Outcome{V: api.Value{K: api.Table, O: 2}, Fuel: 5}},
		{"while true do end", api.MaxFuel, 24, api.Outcome{End: api.NoFuel}},
		{"local t = {} while 1 do t[#t + 1] = {} end", 1000, 99, api.Outcome{End: api.NoRoom, Fuel: 1000 - 1 - 37*9 - 7}},
		{"local function f() return f() end return f()", 1000, 99, api.Outcome{End: api.NoStack, Fuel: 1000 - 2 - 2*200}},
	} {
		w, _ := vm.New(c.room, 7)
		for range 2 {
			runScript(t, w, "", 0)
		}
		if got := runScript(t, w, c.s, c.fuel); got != c.want {
			t.Errorf("%s with fuel %d, room %d: %v, not %v", c.s, c.fuel, c.room, got, c.want)
		}
		if !sameProgs(w.Progs(), []api.Proto{compiled(t, ""), compiled(t, ""), compiled(t, c.s)}) {
			t.Errorf("%s: Progs are %v", c.s, w.Progs())
		}
		newWorlds(t, c.room, 7).script(t, c.s, c.fuel)
	}
}

// P17.2: of each end, what was done until then stays: variables, tables, what was by chance.
func TestWhatWasDoneStays(t *testing.T) {
	for s, end := range map[string]int{
		"x = 1 t = {2} random() return 5":                                                   api.Done,
		"x = 1 t = {2} random() error(5) x = 9":                                             api.Failed,
		"x = 1 t = {2} random() while true do end x = 9":                                    api.NoFuel,
		"x = 1 t = {2} random() local l = {} while true do l[#l + 1] = 1 end":               api.NoRoom,
		"x = 1 t = {2} random() local function f() f() end f() x = 9":                       api.NoStack,
		"resume(create(function() x = 1 t = {2} random() while true do end end)) x = 9":     api.NoFuel,
		"pcall(function() x = 1 t = {2} random() local function f() f() end f() end) x = 9": api.NoStack,
	} {
		w, _ := vm.New(200, 7)
		if o := runScript(t, w, s, 2000); o.End != end {
			t.Errorf("%s: %v, not the end %d", s, o, end)
		}
		if w.Seed() == 7 {
			t.Errorf("%s: the chance is as it was", s)
		}
		if w.Heap().Get(1, value.Text("x")) != num(1) {
			t.Errorf("%s: x is %v", s, w.Heap().Get(1, value.Text("x")))
		}
		if table := w.Heap().Get(1, value.Text("t")); w.Heap().Get(table.O, num(1)) != num(2) {
			t.Errorf("%s: t is %v", s, table)
		}
	}
}

// P17.2, P17.3: a script's function is called without arguments, whatever Params it has, and its registers are Nil.
func TestWholeFunction(t *testing.T) {
	for at := range 5 {
		p := api.Proto{Params: 3, Regs: 5, Code: []api.Instr{{Op: api.OpReturn, A: at}}}
		if o := mustRun(t, fresh(t), p, 10); o != (api.Outcome{Fuel: 9}) {
			t.Errorf("register %d at first: %v", at, o)
		}
	}
	p := api.Proto{Params: 30, Regs: api.MaxRegs, Code: []api.Instr{{Op: api.OpReturn, A: api.MaxRegs - 1}}}
	if o := mustRun(t, fresh(t), p, 10); o != (api.Outcome{Fuel: 9}) {
		t.Errorf("the last register at first: %v", o)
	}
}

// P17.2: just MaxCalls functions within one another, and one more: called as such, through pcall, and through threads that wait for one another; built-in functions don't count.
func TestMaxCalls(t *testing.T) {
	const through = "local function down(n) if n > 0 then return HOW end return type(n) end return down(N)"
	for how, kind := range map[string]string{
		"down(n - 1)":           "call",
		"pcall(down, n - 1)[2]": "pcall",
		"pcall(pcall, pcall, down, n - 1)[2][2][2]":                                                "pcall of pcall",
		"resume(create(down), n - 1)[2]":                                                           "resume",
		"pcall(resume, create(down), n - 1)[2][2]":                                                 "pcall of resume",
		"resume(create(pcall), function() return down(n - 1) end)[2][2]":                           "a thread that is pcall",
		"(n % 2 == 0 and resume(create(down), n - 1) or pcall(down, n - 1))[2]":                    "both",
		"(n % 3 == 0 and resume(create(function(x) return down(x) end), n - 1)[2] or down(n - 1))": "a function more",
	} {
		for _, n := range []int{10, 90, 98, 99, 100, 147, 148, 149, 150, 197, 198, 199, 200} {
			calls := n + 2 // the script, and down n and 1 times
			switch kind {
			case "a thread that is pcall":
				calls += n
			case "a function more":
				calls += n / 3
			}
			want := "number"
			if calls > 200 {
				want = "end 4"
			}
			s := strings.NewReplacer("HOW", how, "N", strconv.Itoa(n)).Replace(through)
			if got := mustTell(t, s); got != want {
				t.Errorf("%d times by %s: %s, not %s", n, kind, got, want)
			}
		}
	}
}

// P17.2: NoStack, NoFuel and NoRoom are no errors: neither pcall nor resume catches them.
func TestEndsAreNotCaught(t *testing.T) {
	for body, end := range map[string]int{
		"local function f() return f() + 1 end f()":   api.NoStack,
		"while true do end":                           api.NoFuel,
		"local t = {} while true do t = {t} end":      api.NoRoom,
		"local t = {} for i = 1, 9e9 do t[i] = 1 end": api.NoRoom,
		"while true do t = create(type) end":          api.NoRoom,
		"while true do t = function() end end":        api.NoRoom,
	} {
		for _, about := range []string{"pcall(function() BODY end)", "pcall(pcall, function() BODY end)", "resume(create(function() BODY end))", "resume(create(function() pcall(function() BODY end) end))", "pcall(function() resume(create(function() BODY end)) end)"} {
			w := newWorlds(t, 500, 7)
			if o := w.script(t, strings.Replace(about, "BODY", body, 1)+" caught = true", 5000); o.End != end || o.V != (api.Value{}) {
				t.Errorf("%s within %s: %v, not the end %d", body, about, o, end)
			}
			if w.w.Heap().Get(1, value.Text("caught")) != (api.Value{}) {
				t.Errorf("%s within %s was caught", body, about)
			}
		}
	}
}

// P17.2: functions of threads that wait count; those of threads that are suspended don't, but they do when these go on, so that there may be more than MaxCalls: none of them may then be called.
func TestCallsOfThreads(t *testing.T) {
	const into = `local function into(n) if n > 0 then return into(n - 1) end local x = yield(1) x = yield(type(x)) return x() end
local function from(n, c, x) if n > 0 then return from(n - 1, c, x) end return resume(c, x) end
`
	for s, want := range map[string]string{
		// The first resume: 1 + 51 + 101 functions.
		"local c = create(into) local x = from(50, c, 100) return x[2]": "1",
		"local c = create(into) local x = from(99, c, 98) return x[2]":  "1",
		"local c = create(into) local x = from(99, c, 99) return x[2]":  "end 4",
		// A suspended thread's functions don't count.
		"local c = create(into) resume(c, 198) return from(150, create(type), 1)[2]": "number",
		"local c = create(into) resume(c, 198) return from(150, create(into), 1)[2]": "1",
		// 1 + 151 + 199 functions: what is no call goes on, and built-in functions may be called.
		"local c = create(into) resume(c, 198) return from(150, c, 1)[2]": "number",
		// Any other function is one too many, however it is called.
		"local c = create(into) resume(c, 198) from(150, c, 1) return from(150, c, function() end)[1]":         "end 4",
		"local c = create(into) resume(c, 198) from(150, c, 1) return from(150, c, type)[2]":                   "nil",
		"local c = create(into) resume(c, 100) from(150, c, 1) return from(96, c, function() return 5 end)[2]": "5",
		"local c = create(into) resume(c, 100) from(150, c, 1) return from(97, c, function() return 5 end)[2]": "end 4",
		// Behind a thread that yields, ends or fails, its functions are gone.
		"local c = create(into) from(98, c, 98) return from(197, create(function() return 3 end), 1)[2]":                               "3",
		"local c = create(function(x) error(x) end) from(197, c, 5) return from(197, create(function() return 3 end), 1)[2]":           "3",
		"local function f(n) if n > 0 then return f(n - 1) end error(8) end for i = 1, 5 do pcall(f, 197) end return pcall(f, 198)[2]": "8",
		"local function f(n) if n > 0 then return f(n - 1) end error(8) end for i = 1, 5 do pcall(f, 197) end return pcall(f, 199)[2]": "end 4",
	} {
		if got := mustTell(t, into+s); got != want {
			t.Errorf("%s: %s, not %s", s, got, want)
		}
	}
}

// P17.2: a chain of threads, each of which calls nearly as many functions as there may be, goes on as long as none is called.
func TestLongChain(t *testing.T) {
	const chain = `local function into(n) if n > 0 then return into(n - 1) end local l = yield() local i = #l if i == 0 then return "last" end local c = l[i] l[i] = nil return resume(c, l)[2] end
local l = {} for i = 1, 60 do l[i] = create(into) resume(l[i], 190) end return `
	if got := mustTell(t, chain+"resume(l[1], {})[2]"); got != "last" {
		t.Errorf("one of many: %s", got)
	}
	if got := mustTell(t, chain+"pcall(function() local c = l[60] l[60] = nil return resume(c, l)[2] end)[2]"); got != "last" {
		t.Errorf("one behind another: %s", got)
	}
}

// P17.2: behind a run all threads that were resumed in it are Dead, however it ended, and in whichever state they were; others stay as they are, and can be resumed by another script.
func TestThreadsBehindARun(t *testing.T) {
	const threads = `new = create(function(x) return x end)
left = create(function(x) yield(x) return 1 end) resume(left, 1)
done = create(function() end) resume(done)
bad = create(function() error(1) end) resume(bad)
outer = create(function() inner = create(function() INSIDE end) resume(inner) yield() end) resume(outer) `
	for _, c := range []struct {
		inside, behind string
		end            int
	}{
		{"", "", api.Done},
		{"yield()", "", api.Done},
		{"yield()", "error(4)", api.Failed},
		{"yield()", "while true do end", api.NoFuel},
		{"while true do end", "", api.NoFuel},
		{"local t while true do t = {} end", "", api.NoRoom},
		{"local function f() f() end f()", "", api.NoStack},
	} {
		w := newWorlds(t, 400, 7)
		s := strings.Replace(threads, "INSIDE", c.inside, 1) + c.behind
		if o := w.script(t, s, 5000); o.End != c.end {
			t.Errorf("%s: %v, not the end %d", s, o, c.end)
		}
		for name, want := range map[string]int{"new": api.Suspended, "left": api.Dead, "done": api.Dead, "bad": api.Dead, "outer": api.Dead, "inner": api.Dead} {
			v := w.w.Heap().Get(1, value.Text(name))
			if o, _ := w.w.Heap().Object(v.O); v.K != api.Co || o.A != want {
				t.Errorf("%s: behind it %s is %v, in the state %d, not %d", s, name, v, o.A, want)
			}
		}
		if c.end == api.NoRoom {
			continue
		}
		o := w.script(t, "return status(left) .. tostring(resume(left)[1]) .. resume(left)[2] .. status(new) .. resume(new, 6)[2] .. status(new)", 1000)
		if want := "deadfalseresumesuspended6dead"; shown(o) != want {
			t.Errorf("%s: another script: %s, not %s", s, shown(o), want)
		}
	}
}

// P17.8: Run ends, also where nothing goes on but what costs nothing: what goes back is paid for.
func TestRunEnds(t *testing.T) {
	loops := map[string][]api.Instr{
		"jump to itself":    {{Op: api.OpJump}},
		"jump back":         {{Op: api.OpClear}, {Op: api.OpShift}, {Op: api.OpJump}},
		"jumpnot to itself": {{Op: api.OpJumpNot}, {Op: api.OpEnd}},
		"jumpnot back":      {{Op: api.OpClear}, {Op: api.OpJumpNot}, {Op: api.OpEnd}},
		"jumpif back":       {{Op: api.OpNot, A: 1}, {Op: api.OpJumpIf, A: 1, B: 1}, {Op: api.OpEnd}},
		"on and back":       {{Op: api.OpJump, A: 2}, {Op: api.OpJump}, {Op: api.OpJump, A: 1}},
		"boxes":             {{Op: api.OpNewBox}, {Op: api.OpJump}},
	}
	for why, orders := range loops {
		for _, fuel := range []int{0, 1, 2, 3, 50, 1000} {
			w, _ := vm.New(100, 7)
			o := mustRun(t, w, api.Proto{Regs: 2, Code: orders}, fuel)
			if want := (api.Outcome{End: api.NoFuel}); o != want && (why != "boxes" || fuel < 50 || o != (api.Outcome{End: api.NoRoom, Fuel: fuel - 38})) {
				t.Errorf("%s with fuel %d: %v", why, fuel, o)
			}
		}
	}
	if o := mustRun(t, fresh(t), api.Proto{Regs: 1, Code: loops["jump to itself"]}, api.MaxFuel); o != (api.Outcome{End: api.NoFuel}) {
		t.Errorf("with all fuel: %v", o)
	}
}
