package mach_test

import (
	"math"
	"testing"

	"minstrel/api"
	"minstrel/code"
	"minstrel/mach"
	"minstrel/rand"
	"minstrel/vm"
)

// Cells, written short: lists, values, objects.
func l(c ...api.Cell) api.Cell         { return code.List(c...) }
func n(x float64) api.Cell             { return l(nums(api.Number), code.Number(math.Float64bits(x))) }
func s(x string) api.Cell              { return l(nums(api.Text), code.Text(x)) }
func lib(x int) api.Cell               { return l(nums(api.Lib), nums(x)) }
func tab(x int) api.Cell               { return l(nums(api.Table), nums(x)) }
func fun(x int) api.Cell               { return l(nums(api.Func), nums(x)) }
func co(x int) api.Cell                { return l(nums(api.Co), nums(x)) }
func box(x int) api.Cell               { return l(nums(api.Box), nums(x)) }
func table(pairs ...api.Cell) api.Cell { return l(nums(api.Table), l(pairs...), none) }
func with(meta int, pairs ...api.Cell) api.Cell {
	return l(nums(api.Table), l(pairs...), tab(meta))
}
func function(script, place int, slots ...api.Cell) api.Cell {
	return l(nums(api.Func), nums(script), nums(place), l(slots...))
}
func thread(state int, slot api.Cell) api.Cell { return l(nums(api.Co), nums(state), l(slot)) }
func boxed(slot api.Cell) api.Cell             { return l(nums(api.Box), l(slot)) }

var none, no, yes = l(nums(api.Nil)), l(nums(api.False)), l(nums(api.True))

// bare drops all built-in functions, so that a State is short.
var bare = func() string {
	s := ""
	for i := 0; vm.LibName(i) != ""; i++ {
		s += " " + vm.LibName(i) + " = nil"
	}
	return s
}()

// state is that of a machine with 200 cells, fuel 2000 and the seed 9, with these scripts and objects.
func state(texts []string, objects ...api.Cell) api.Cell {
	var scripts []api.Cell
	for _, text := range texts {
		scripts = append(scripts, code.Text(text))
	}
	return l(nums(200), nums(2000), nums(9), l(scripts...), l(objects...))
}

// holds tells where a State is another one; and that it is read again.
func holds(t *testing.T, what string, m *mach.Machine, want api.Cell) {
	t.Helper()
	if got := m.State(); !code.Same(got, want) {
		t.Errorf("%s: State() = %v, not %v", what, got, want)
	}
	if n, e := mach.FromState(want); e != api.OK || !code.Same(n.State(), want) {
		t.Errorf("%s: FromState(%v) = %v", what, want, e)
	}
}

// P18.3, P18.4: of some scripts, one behind the other, the State, reckoned by hand.
func TestStates(t *testing.T) {
	all := "local n = 5 t = {7, k = \"x\"} setmeta(t, {}) f = function(a) n = n + a return n end g = function() return n end c = create(f) d = create(sqrt)" + bare
	two := "g = function() end"
	boxes := "local a local b = {5} local c = create(abs) local d = \"x\" local e = upper f = function() return {a, b, c, d, e} end" + bare
	for _, x := range []struct {
		what    string
		scripts []string
		want    api.Cell
	}{
		{"nothing", []string{bare}, state(nil, table())},
		{"each kind of object", []string{all}, state([]string{all},
			table(s("t"), tab(2), s("f"), fun(3), s("g"), fun(4), s("c"), co(5), s("d"), co(6)),
			with(7, n(1), n(7), s("k"), s("x")),
			function(0, 1, box(8)), function(0, 2, box(8)), thread(0, fun(3)), thread(0, lib(13)),
			table(), boxed(n(5)))},
		{"each kind of value", []string{"a = false b = true c = 0.5 d = -0 e = 0/0 f = 1/0 g = \"\" h = char(0) .. \"z\" i = abs" + bare},
			state(nil, table(s("a"), no, s("b"), yes, s("c"), n(0.5), s("d"), n(math.Copysign(0, -1)), s("e"), l(nums(3), code.Number(0x7ff8000000000000)), s("f"), n(math.Inf(1)), s("g"), s(""), s("h"), s("\x00z"), s("i"), lib(14)))},
		{"keys of each kind", []string{"t = {} t[false] = 1 t[true] = 2 t[-0] = 3 t[2.5] = 4 t[\"\"] = 5 t[type] = 6 t[{}] = 7 t[create(abs)] = 8 t[function() end] = {}" + bare + " u = nil"},
			state([]string{"t = {} t[false] = 1 t[true] = 2 t[-0] = 3 t[2.5] = 4 t[\"\"] = 5 t[type] = 6 t[{}] = 7 t[create(abs)] = 8 t[function() end] = {}" + bare + " u = nil"},
				table(s("t"), tab(2)), table(no, n(1), yes, n(2), n(0), n(3), n(2.5), n(4), s(""), n(5), lib(0), n(6), tab(3), n(7), co(4), n(8), fun(5), tab(6)), table(), thread(0, lib(14)), function(0, 1), table())},
		{"keys ahead of values, and both ahead of what stands in", []string{"t = {} setmeta(t, {9}) t[{1}] = {2} t[{3}] = {4}" + bare},
			state(nil, table(s("t"), tab(2)), with(7, tab(3), tab(4), tab(5), tab(6)), table(n(1), n(1)), table(n(1), n(2)), table(n(1), n(3)), table(n(1), n(4)), table(n(1), n(9)))},
		{"what was met first, object by object", []string{"a = {{{1}}, {2}} b = {3}" + bare},
			state(nil, table(s("a"), tab(2), s("b"), tab(3)), table(n(1), tab(4), n(2), tab(5)), table(n(1), n(3)), table(n(1), tab(6)), table(n(1), n(2)), table(n(1), n(1)))},
		{"keys in the order in which they came", []string{"b = 1 a = 2 t = {} t[2] = 1 t[1] = 2 t[2] = 3 a = 4 b = nil b = 5" + bare},
			state(nil, table(s("a"), n(4), s("t"), tab(2), s("b"), n(5)), table(n(2), n(3), n(1), n(2)))},
		{"in a circle", []string{"t = {} t.t = t u = {t} t.u = u setmeta(t, u) setmeta(u, u)" + bare},
			state(nil, table(s("t"), tab(2), s("u"), tab(3)), with(3, s("t"), tab(2), s("u"), tab(3)), with(3, n(1), tab(2)))},
		{"a function that has itself", []string{"local function f() return f end g = f" + bare},
			state([]string{"local function f() return f end g = f" + bare}, table(s("g"), fun(2)), function(0, 1, box(3)), boxed(fun(2)))},
		{"a box of each value", []string{boxes},
			state([]string{boxes}, table(s("f"), fun(2)), function(0, 1, box(3), box(4), box(5), box(6), box(7)), boxed(none), boxed(tab(8)), boxed(co(9)), boxed(s("x")), boxed(lib(21)), table(n(1), n(5)), thread(0, lib(14)))},
		{"scripts in the order of their functions", []string{"b = function() end a = function() end", two, "z = 1 a = nil a = function() return 1 end" + bare},
			state([]string{"b = function() end a = function() end", two, "z = 1 a = nil a = function() return 1 end" + bare},
				table(s("b"), fun(2), s("g"), fun(3), s("z"), n(1), s("a"), fun(4)), function(0, 1), function(1, 1), function(2, 1))},
		{"scripts that are the same are two", []string{"f = {f, function() end}", "f = {f, function() end}", bare},
			state([]string{"f = {f, function() end}", "f = {f, function() end}"}, table(s("f"), tab(2)), table(n(1), tab(3), n(2), fun(4)), table(n(2), fun(5)), function(0, 1), function(1, 1))},
	} {
		m := made(t, 200, 2000, 9)
		for _, script := range x.scripts {
			give(t, m, command{script, done("nil")})
		}
		holds(t, x.what, m, x.want)
	}
}

// P18.3: threads that were resumed are dead behind the command, whatever they were; those that were not are as they were.
func TestThreads(t *testing.T) {
	m := made(t, 200, 2000, 9)
	script := "local function y() yield(1) end a = create(y) b = create(y) c = create(y) d = create(error) resume(b) resume(c) resume(c) resume(d)"
	give(t, m, command{script + " return status(a) .. status(b) .. status(c) .. status(d)", done("suspendedsuspendeddeaddead")},
		command{"return status(a) .. status(b) .. status(c) .. status(d)", done("suspendeddeaddeaddead")},
		command{"local b = b return resume(b)[2]", done("resume")},
		command{"e = create(function() return status(e) .. status(a) end) return resume(e)[2]", done("runningsuspended")},
		command{"f = create(function() local r = resume(create(function() return status(f) end)) return r[2] end) return resume(f)[2]", done("normal")},
		command{"return status(e) .. status(f)", done("deaddead")},
		command{"g = create(function(x) return x end) error(resume(g, 7)[2])", failed("7")},
		command{"return g", done("nil")},
		command{"g = create(function(x) return x end)", done("nil")},
		command{"error(resume(g, 7)[2])", failed("7")},
		command{"return status(g) .. resume(g, 8)[2] .. status(g)", done("suspended8dead")},
		command{"return status(g)", done("dead")},
	)
	for i, o := range m.State().L[4].L {
		if o.L[0].N == api.Co && o.L[1].N != api.Suspended && o.L[1].N != api.Dead {
			t.Errorf("the object %d is %v", i+1, o)
		}
	}
}

// P18.3: a thread that is dead still has its function, whose script stays.
func TestDeadThreadsFunction(t *testing.T) {
	m := made(t, 200, 2000, 9)
	s1 := "c = create(function() end) resume(c)" + bare
	give(t, m, command{s1, done("nil")})
	holds(t, "a dead thread", m, state([]string{s1}, table(s("c"), co(2)), thread(3, fun(3)), function(0, 1)))
}

// P18.3: what can be reached, through whatever it is, stays; what can't is gone.
func TestReached(t *testing.T) {
	for _, x := range []struct {
		what, keep, drop, ask, answer string
		objects                       int // that are left when it is dropped, besides the global table
	}{
		{"a value", "x = {k = {5}}", "x.k = nil", "return x.k[1]", "5", 1},
		{"a key", "x = {} x[{5}] = 1", "x[next(x)] = nil", "return next(x)[1]", "5", 1},
		{"what stands in", "x = setmeta({}, {k = 5})", "setmeta(x, nil)", "return x.k", "5", 1},
		{"a function's variable", "local t = {5} x = function() return t[1] end", "x = nil", "return x()", "5", 0},
		{"a variable of a function about it", "local t = {5} x = function() return function() return t[1] end end x = x()", "x = 1", "return x()", "5", 0},
		{"a thread's function", "local t = {5} x = create(function() return t[1] end)", "x = nil", "return resume(x)[2]", "5", 0},
		{"a thread in a variable", "local c = create(function() return 5 end) x = function() return resume(c)[2] end", "x = nil", "return x()", "5", 0},
		{"what stands in for what stands in", "x = setmeta({}, setmeta({}, setmeta({}, {k = 5})))", "setmeta(getmeta(x), nil)", "return x.k", "5", 2},
		{"a circle", "x = {} x.a = {} x.a.a = x x.k = 5", "x = nil", "return x.a.a.k", "5", 0},
	} {
		m := made(t, 200, 2000, 9)
		give(t, m, command{x.keep, done("nil")})
		kept := m.State()
		for range 3 {
			give(t, m, command{"return 1", done("1")})
		}
		if !code.Same(m.State(), kept) {
			t.Errorf("%s: %v became %v", x.what, kept, m.State())
		}
		again, _ := mach.FromState(kept)
		give(t, again, command{x.ask, done(x.answer)})
		give(t, m, command{x.drop, done("nil")})
		if got := len(m.State().L[4].L) - 1; got != x.objects {
			t.Errorf("%s: %d objects are left, not %d: %v", x.what, got, x.objects, m.State())
		}
		if x.objects == 0 && len(m.State().L[3].L) != 0 {
			t.Errorf("%s: scripts are left: %v", x.what, m.State().L[3])
		}
	}
}

// P18.3: a script is there as long as one of its functions is, of whichever of them.
func TestScriptsGo(t *testing.T) {
	m := made(t, 200, 2000, 9)
	one, two := "a = function() return 1 end b = function() return function() return 2 end end", "c = b() b = function() return 3 end"
	give(t, m, command{bare, done("nil")}, command{one, done("nil")}, command{two, done("nil")})
	holds(t, "both", m, state([]string{one, two}, table(s("a"), fun(2), s("b"), fun(3), s("c"), fun(4)), function(0, 1), function(1, 1), function(0, 3)))
	give(t, m, command{"a = nil", done("nil")})
	holds(t, "turned", m, state([]string{two, one}, table(s("b"), fun(2), s("c"), fun(3)), function(0, 1), function(1, 3)))
	give(t, m, command{"return b() .. c()", done("32")}, command{"c = nil", done("nil")})
	holds(t, "one", m, state([]string{two}, table(s("b"), fun(2)), function(0, 1)))
	give(t, m, command{"return b()", done("3")}, command{"b = nil", done("nil")})
	holds(t, "none", m, state(nil, table()))
}

// P18.3: a script's text is kept as it was given, blanks and remarks too.
func TestTextsAsGiven(t *testing.T) {
	m := made(t, 200, 2000, 9)
	text := "\t -- a remark\r\n f   =function()end--" + bare
	give(t, m, command{bare, done("nil")}, command{text, done("nil")})
	holds(t, "remarks", m, state([]string{text}, table(s("f"), fun(2)), function(0, 1)))
}

// P18.4: the seed is the state of chance behind the commands that were Done.
func TestSeed(t *testing.T) {
	m := made(t, 200, 2000, 9)
	give(t, m, command{"random() random(6) x = 1", done("nil")})
	want, _ := rand.Unit(9)
	want, _ = rand.Below(want, 6)
	if got := m.State().L[2]; !code.Same(got, code.Number(want)) {
		t.Errorf("the seed is %v, not %d", got, want)
	}
	for _, script := range []string{"random() error(1)", "random() while true do end", "random() t = {} while true do t = {t} end", "random() local function f() return f() + 1 end f()", "random() !"} {
		if r := m.Exec(script); r.End == api.Done {
			t.Errorf("Exec(%q) = %v", script, r)
		}
		if got := m.State().L[2]; !code.Same(got, code.Number(want)) {
			t.Errorf("behind %q the seed is %v, not %d", script, got, want)
		}
	}
}

// P18.4: a State is new memory, each time.
func TestStateIsNew(t *testing.T) {
	m := made(t, 200, 2000, 9)
	give(t, m, command{"local n = {5} t = {7, k = {}} f = function() return n end c = create(f)", done("nil")})
	was := copyOf(m.State())
	spoiled := m.State()
	for _, c := range places(&spoiled, nil) {
		*c = api.Cell{K: 7}
	}
	if !code.Same(m.State(), was) {
		t.Errorf("a State that was changed changed the machine: %v", m.State())
	}
	c := copyOf(was)
	read, _ := mach.FromState(c)
	for _, p := range places(&c, nil) {
		*p = api.Cell{K: 7}
	}
	if !code.Same(read.State(), was) {
		t.Errorf("a cell that was changed changed the machine that was read from it: %v", read.State())
	}
	lists := map[*api.Cell]int{}
	for _, state := range []api.Cell{m.State(), m.State(), read.State()} {
		for _, p := range places(&state, nil) {
			if cap(p.L) > 0 {
				first := &p.L[:1][0]
				if lists[first]++; lists[first] > 1 {
					t.Fatalf("two lists share memory: %v", *p)
				}
			}
		}
	}
}
