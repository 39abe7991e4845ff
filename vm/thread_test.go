package vm_test

import (
	"strings"
	"testing"

	"minstrel/api"
)

// P17.6, P17.7: threads, by hand. show tells what a resume answers.
func TestThreads(t *testing.T) {
	const show = "local function show(r) return tostring(r[1]) .. \":\" .. tostring(r[2]) .. \" \" end "
	for s, want := range map[string]string{
		// Of a Func: first and again, to its answer, and behind it.
		"local c = create(function(a) local b = yield(a + 1) return b * 2 end) return show(resume(c, 1)) .. show(resume(c, 5)) .. show(resume(c, 1))":         "true:2 true:10 false:resume ",
		"local c = create(function() end) return show(resume(c)) .. status(c)":                                                                                "true:nil dead",
		"local c = create(function(a, b) return tostring(a) .. tostring(b) end) return show(resume(c, 1, 2))":                                                 "true:1nil ",
		"local c = create(function(a) return type(a) end) return show(resume(c))":                                                                             "true:nil ",
		"local c = create(function() return type(yield()) end) resume(c) return show(resume(c))":                                                              "true:nil ",
		"local c = create(function() return type(yield(1, 2)) end) return show(resume(c)) .. show(resume(c, nil))":                                            "true:1 true:nil ",
		"local c = create(function(a) while true do a = yield(a) end end) return show(resume(c, 1)) .. show(resume(c, 2)) .. show(resume(c, 3)) .. status(c)": "true:1 true:2 true:3 suspended",
		// Of a Lib.
		"local c = create(type) return show(resume(c, 5)) .. status(c)":                                     "true:number dead",
		"local c = create(error) return show(resume(c, 5)) .. status(c)":                                    "false:5 dead",
		"local c = create(yield) return show(resume(c, 5)) .. status(c) .. show(resume(c, 6)) .. status(c)": "true:5 suspendedtrue:6 dead",
		"local c = create(pcall) return show(resume(c, function() error(3) end)[2])":                        "false:3 ",
		"local c = create(pcall) return show(resume(c, yield)) .. show(resume(c, 7)[2])":                    "true:nil true:7 ",
		"local c = create(resume) return show(resume(c, create(type))[2])":                                  "true:nil ",
		"local c = create(resume) return show(resume(c, 5))":                                                "false:resume ",
		"local c = create(resume) return show(resume(c, c)[2])":                                             "false:resume ",
		"local c = create(create) return type(resume(c, type)[2])":                                          "thread",
		"local c = create(status) return show(resume(c, c))":                                                "true:running ",
		// That fail.
		"local c = create(function() error(8) end) return show(resume(c)) .. status(c) .. show(resume(c))":                              "false:8 deadfalse:resume ",
		"local c = create(function() yield(1) return 1 + nil end) return show(resume(c)) .. show(resume(c)) .. status(c)":               "true:1 false:arith dead",
		"local c = create(function() g() end) return show(resume(c))":                                                                   "false:call ",
		"local c = create(function() local function f(n) if n == 0 then error(\"x\") end f(n - 1) end f(9) end) return show(resume(c))": "false:x ",
		"local c = create(function() error() end) return show(resume(c)) .. #resume(c)":                                                 "false:nil 2",
		// That yield from within calls, and within pcall.
		"local function deep(n) if n == 0 then return yield(\"deep\") end return deep(n - 1) + 1 end local c = create(deep) return show(resume(c, 9)) .. show(resume(c, 5))":                                                  "true:deep true:14 ",
		"local c = create(function() return pcall(function() return yield(1) + 1 end)[2] end) return show(resume(c)) .. show(resume(c, 5))":                                                                                   "true:1 true:6 ",
		"local c = create(function() return pcall(function() error(yield(1)) end)[2] end) return show(resume(c)) .. show(resume(c, 5))":                                                                                       "true:1 true:5 ",
		"local c = create(function() return pcall(yield, 4)[2] end) return show(resume(c)) .. show(resume(c, 5))":                                                                                                             "true:4 true:5 ",
		"local c = create(function() return pcall(pcall, pcall, yield, 4)[2][2][2] end) return show(resume(c)) .. show(resume(c, 5))":                                                                                         "true:4 true:5 ",
		"local c = create(function() local r = pcall(function() yield(1) yield(2) error(3) end) yield(r[2]) return 4 end) return show(resume(c)) .. show(resume(c)) .. show(resume(c)) .. show(resume(c)) .. show(resume(c))": "true:1 true:2 true:3 true:4 false:resume ",
		"local c = create(function() for i = 1, 3 do yield(i) end end) return show(resume(c)) .. show(resume(c)) .. show(resume(c)) .. show(resume(c))":                                                                       "true:1 true:2 true:3 true:nil ",
		"local c = create(function() return {yield(1), yield(2), x = yield(3)} end) resume(c) resume(c, 7) resume(c, 8) local t = resume(c, 9)[2] return t[1] .. t[2] .. t.x":                                                 "789",
		"local c = create(function() return yield(1) + yield(2) * yield(3) end) resume(c) resume(c, 4) resume(c, 5) return show(resume(c, 6))":                                                                                "true:34 ",
		"local c = create(function() local x = yield return x(3) end) return show(resume(c)) .. show(resume(c, 4))":                                                                                                           "true:3 true:4 ",
		// That resume themselves, one that waits, one that is dead.
		"local c c = create(function() return show(resume(c)) .. status(c) end) return show(resume(c)) .. status(c)":                                                                                     "true:false:resume running dead",
		"local a local b b = create(function() return show(resume(a)) .. status(a) .. status(b) end) a = create(function() return show(resume(b)) .. status(b) end) return show(resume(a)) .. status(a)": "true:true:false:resume normalrunning dead dead",
		"local b a = create(function() b = create(function() yield(status(a) .. status(b)) end) return resume(b)[2] .. status(a) .. status(b) end) return show(resume(a)) .. status(a) .. status(b)":     "true:normalrunningrunningsuspended deadsuspended",
		"local a = create(function() error(1) end) resume(a) local b = create(function() return show(resume(a)) end) return show(resume(b))":                                                             "true:false:resume  ",
		// One that resumes another and yields what that yields.
		"local inner = create(function() for i = 1, 2 do yield(i) end return 3 end) local outer = create(function() while status(inner) == \"suspended\" do yield(resume(inner)[2] * 10) end return \"end\" end) return show(resume(outer)) .. show(resume(outer)) .. show(resume(outer)) .. show(resume(outer))": "true:10 true:20 true:30 true:end ",
		// Resumed by others than the one that resumed it first.
		"local c = create(function() yield(1) yield(2) return 3 end) local a = create(function() return resume(c)[2] end) local b = create(function() return resume(c)[2] end) return show(resume(a)) .. show(resume(b)) .. show(resume(c)) .. status(c)": "true:1 true:2 true:3 dead",
		// An error in a thread is caught by the resume, not by a pcall about it.
		"local c = create(function() error(1) end) return show(pcall(function() return show(resume(c)) end))":              "true:false:1  ",
		"return show(pcall(resume, create(error), 4)[2])":                                                                  "false:4 ",
		"local c = create(function() pcall(error, 1) error(2) end) return show(pcall(function() return resume(c)[2] end))": "true:2 ",
		// yield in no thread, though others are there.
		"local c = create(function() yield(1) end) resume(c) return show(pcall(yield))":    "false:yield ",
		"local c = create(function() return show(pcall(yield, 1)) end) resume(c) yield(2)": "!yield",
		// Variables that threads share.
		"local n = 0 local function f() while true do n = n + 1 yield(n) end end local a = create(f) local b = create(f) resume(a) resume(b) resume(a) return show(resume(b)) .. n": "true:4 4",
		"local l = {} for i = 1, 3 do l[i] = create(function() yield(i) i = i * 10 return i end) end for i = 1, 3 do resume(l[i]) end return resume(l[3])[2] .. resume(l[1])[2]":    "3010",
		// A thread as a key, and as it is compared.
		"local a = create(type) local b = create(type) local t = {[a] = 1, [b] = 2} return t[a] .. t[b] .. tostring(a == b) .. tostring(a == a)": "12falsetrue",
	} {
		if got := mustTell(t, show+s); got != want {
			t.Errorf("%s: %s, not %s", s, got, want)
		}
	}
}

// P17.7: the states that a thread has while it and others run, told by its object.
func TestStatesOfThreads(t *testing.T) {
	w := newWorlds(t, 1000, 7)
	o := w.script(t, `local s = "" local a local b
local function note() s = s .. sub(status(a), 1, 1) .. sub(status(b), 1, 1) .. " " end
a = create(function() note() resume(b) note() yield() note() resume(b) note() end)
b = create(function() note() yield() note() end)
note() resume(a) note() resume(a) note() resume(a) note() return s`, 1000)
	if want := "ss rs nr rs ss rs nr rd dd dd "; shown(o) != want {
		t.Errorf("the states are %s, not %s", shown(o), want)
	}
}

// P17.7: create makes a Co that is Suspended, with its function in its one slot, and nothing runs yet.
func TestCreate(t *testing.T) {
	w := newWorlds(t, 100, 7)
	o := w.script(t, "local f = function() x = 1 end return {create(f), create(error), f}", 100)
	h := w.w.Heap()
	for i, want := range []api.Value{h.Get(o.V.O, num(3)), {K: api.Lib, O: api.LibError}} {
		v := h.Get(o.V.O, num(float64(i+1)))
		co, _ := h.Object(v.O)
		if v.K != api.Co || co.K != api.Co || co.A != api.Suspended || co.B != 0 || len(co.Slots) != 1 || co.Slots[0] != want {
			t.Errorf("the thread %d is %v: %v", i, v, co)
		}
	}
	if o := w.script(t, "return x", 100); shown(o) != "nil" {
		t.Errorf("x is %s", shown(o))
	}
}

// P17.2, P17.7: a thread that a script left suspended is dead for the next one; one that was never resumed isn't, and knows its variables.
func TestThreadsOfEarlierScripts(t *testing.T) {
	w := newWorlds(t, 1000, 7)
	w.script(t, "local n = 5 c = create(function(x) yield(n + x) return n end) d = create(function(x) n = n + x yield(n) end) e = create(type) resume(c, 1)", 1000)
	for s, want := range map[string]string{
		"return status(c) .. resume(c, 1)[2]": "deadresume",
		"return status(e) .. resume(e, 1)[2]": "suspendednumber",
		"return status(d) .. resume(d, 1)[2]": "suspended6",
	} {
		if o := w.script(t, s, 1000); shown(o) != want {
			t.Errorf("%s: %s, not %s", s, shown(o), want)
		}
	}
	if o := w.script(t, "return status(c) .. status(d) .. status(e)", 1000); shown(o) != "deaddeaddead" {
		t.Errorf("behind all: %s", shown(o))
	}
}

// P17.6: many threads at once, each with calls of its own, all left suspended.
func TestManyThreads(t *testing.T) {
	o := newWorlds(t, 1<<16, 7).script(t, `local l = {}
local function deep(n, i) if n == 0 then return yield(i) end return deep(n - 1, i) + 1 end
for i = 1, 300 do l[i] = create(function(x) return deep(x, i) end) resume(l[i], i % 50) end
local s = 0 for i = 300, 1, -2 do s = s + resume(l[i], i)[2] end return s`, ample)
	want := 0
	for i := 300; i >= 2; i -= 2 {
		want += i + i%50
	}
	if o.V != num(float64(want)) {
		t.Errorf("the sum is %v, not %d", o, want)
	}
}

// P17.6: threads in one another, as many as there may be, that yield all the way out.
func TestThreadsInOneAnother(t *testing.T) {
	const s = `local function nest(n) if n == 0 then yield("in") return "out" end local c = create(nest) local x = resume(c, n - 1)[2] yield(x) return resume(c)[2] end
local c = create(nest) local a = resume(c, N)[2] local b = resume(c)[2] return a .. b .. status(c)`
	for n, want := range map[string]string{"0": "inoutdead", "1": "inoutdead", "60": "inoutdead", "198": "inoutdead", "199": "end 4"} {
		if got := mustTell(t, strings.Replace(s, "N", n, 1)); got != want {
			t.Errorf("%s threads in one another: %s, not %s", n, got, want)
		}
	}
}
