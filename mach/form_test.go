package mach_test

import (
	"math"
	"slices"
	"strings"
	"testing"

	"minstrel/api"
	"minstrel/code"
	"minstrel/mach"
)

// The scripts of the State that is changed here.
const (
	first  = "local n = 5 local z = 6 t = {7, k = \"x\"} setmeta(t, {}) f = function(a) n = n + a return n end g = function() return n end h = function() return z end c = create(f) d = create(sqrt)"
	second = "v = function() local y = 1 return function() return y end end"
)

// whole is the State: objects of each kind.
func whole() api.Cell {
	return state([]string{first, second},
		table(s("t"), tab(2), s("f"), fun(3), s("g"), fun(4), s("h"), fun(5), s("c"), co(6), s("d"), co(7), s("v"), fun(8)),
		with(9, n(1), n(7), s("k"), s("x")),
		function(0, 1, box(10)), function(0, 2, box(10)), function(0, 3, box(11)),
		thread(0, fun(3)), thread(3, lib(13)), function(1, 1),
		table(), boxed(n(5)), boxed(n(6)))
}

// wholeUsed is how many cells its objects take: themselves, keys, slots.
const wholeUsed = 11 + 7 + 2 + 3 + 2 + 2

// change is one of the State, and what FromState says of it then.
type change struct {
	what string
	do   func(c *api.Cell)
	want api.Errno
}

// try asks FromState of the changed States.
func try(t *testing.T, changes []change) {
	t.Helper()
	for _, x := range changes {
		c := whole()
		x.do(&c)
		m, e := mach.FromState(c)
		if e != x.want || (m == nil) != (e != api.OK) {
			t.Errorf("%s: FromState(%v) = %v, not %v", x.what, c, e, x.want)
		}
		if m != nil && !code.Same(m.State(), c) {
			t.Errorf("%s: the State of FromState(%v) is %v", x.what, c, m.State())
		}
		if isState(c) != (x.want == api.OK) {
			t.Errorf("%s: the judge says %v", x.what, isState(c))
		}
	}
}

// put is the change of the cell at a path to another one.
func put(what string, want api.Errno, to api.Cell, path ...int) change {
	return change{what, func(c *api.Cell) { *under(c, path) = to }, want}
}

// under is the cell at a path.
func under(c *api.Cell, path []int) *api.Cell {
	for _, i := range path {
		c = &c.L[i]
	}
	return c
}

// swap is the change of two cells for one another, in the list at a path.
func swap(what string, want api.Errno, i, k int, path ...int) change {
	return change{what, func(c *api.Cell) { l := under(c, path).L; l[i], l[k] = l[k], l[i] }, want}
}

// text is a cell that is a text.
func text(s string) api.Cell { return code.Text(s) }

// refused is what FromState says of what is no State.
const refused = api.ErrForm

// P18.4: the State itself is one, and is that of the scripts.
func TestWholeState(t *testing.T) {
	m := made(t, 200, 2000, 9)
	give(t, m, command{first, done("nil")}, command{second, done("nil")}, command{"resume(d, 1)", done("nil")}, command{bare, done("nil")})
	holds(t, "all of it", m, whole())
}

// P18.4: each part of another kind, too short, too long.
func TestShapes(t *testing.T) {
	var changes []change
	var each func(c api.Cell, path []int)
	each = func(c api.Cell, path []int) {
		path = append([]int(nil), path...)
		for _, other := range []api.Cell{{K: 3}, {K: -1, N: c.N, S: c.S, L: c.L}, {K: (c.K + 1) % 3, N: c.N, S: c.S, L: c.L}, {K: (c.K + 2) % 3, N: c.N, S: c.S, L: c.L}} {
			changes = append(changes, put("another kind", refused, other, path...))
		}
		if c.K != api.CellList {
			return
		}
		for i, in := range c.L {
			changes = append(changes,
				change{"too short", func(c *api.Cell) { p := under(c, path); p.L = slices.Delete(p.L, i, i+1) }, refused},
				change{"twice", func(c *api.Cell) { p := under(c, path); p.L = slices.Insert(p.L, i, copyOf(p.L[i])) }, refused})
			each(in, append(path, i))
		}
		for _, more := range []api.Cell{nums(0), text(""), l(), none, l(none, none)} {
			changes = append(changes,
				change{"too long", func(c *api.Cell) { p := under(c, path); p.L = append(p.L, more) }, refused},
				change{"too long ahead", func(c *api.Cell) { p := under(c, path); p.L = append([]api.Cell{more}, p.L...) }, refused})
		}
		changes = append(changes, change{"empty", func(c *api.Cell) { p := under(c, path); p.L = nil }, refused})
	}
	each(whole(), nil)
	for i := range changes {
		c := whole()
		changes[i].do(&c)
		// Some are States all the same: empty lists that were empty, and a global variable less.
		if isState(c) {
			changes[i].want = api.OK
		}
	}
	try(t, changes)
}

// P18.4: fields that play no part change nothing.
func TestOtherFields(t *testing.T) {
	c := whole()
	for _, p := range places(&c, nil) {
		switch p.K {
		case api.CellNumber:
			p.S, p.L = "a", []api.Cell{{K: 9}}
		case api.CellText:
			p.N, p.L = 7, []api.Cell{{K: 9}}
		default:
			p.N, p.S = 7, "a"
		}
	}
	m, e := mach.FromState(c)
	if e != api.OK || !code.Same(m.State(), whole()) {
		t.Errorf("FromState = %v", e)
	}
}

// P18.4: numbers on both sides of what there may be.
func TestNumbers(t *testing.T) {
	big := func(n uint64) api.Cell { return code.Number(n) }
	try(t, []change{
		put("limit 0", refused, nums(0), 0), put("too little room", refused, nums(wholeUsed-1), 0), put("just the room", api.OK, nums(wholeUsed), 0),
		put("all cells", api.OK, nums(1<<20), 0), put("a cell more", refused, nums(1<<20+1), 0), put("limit 2^63", refused, big(1<<63), 0), put("limit -1", refused, big(1<<64-1), 0), put("limit 2^32 and some", refused, big(1<<32+200), 0),
		put("fuel 0", api.OK, nums(0), 1), put("all fuel", api.OK, nums(1<<20), 1), put("fuel more", refused, nums(1<<20+1), 1), put("fuel 2^63", refused, big(1<<63), 1), put("fuel -1", refused, big(1<<64-1), 1), put("fuel 2^32", refused, big(1<<32), 1),
		put("seed 0", api.OK, nums(0), 2), put("seed 2^63", api.OK, big(1<<63), 2), put("greatest seed", api.OK, big(1<<64-1), 2),
		put("kind 4", refused, nums(4), 4, 1, 0), put("kind 8", refused, nums(8), 4, 1, 0), put("kind 10", refused, nums(10), 4, 1, 0), put("kind 0", refused, nums(0), 4, 8, 0), put("kind 2^63", refused, big(1<<63), 4, 8, 0),
		put("script 1", refused, nums(1), 4, 2, 1), put("script 2", refused, nums(2), 4, 7, 1), put("script -1", refused, big(1<<64-1), 4, 7, 1), put("script 2^63", refused, big(1<<63), 4, 7, 1),
		put("the whole script", refused, nums(0), 4, 7, 2), put("another function", refused, nums(2), 4, 7, 2), put("no function", refused, nums(3), 4, 7, 2), put("function -1", refused, big(1<<64-1), 4, 7, 2),
		put("function 2", api.OK, nums(2), 4, 2, 2), put("function 1", api.OK, nums(1), 4, 3, 2), put("function 2 of z", api.OK, nums(2), 4, 4, 2), put("no function 4", refused, nums(4), 4, 4, 2), put("function 0", refused, nums(0), 4, 4, 2), put("function 2^63", refused, big(1<<63+1), 4, 4, 2),
		put("n's Box as z's", refused, nums(3), 4, 3, 2),
		put("dead", api.OK, nums(3), 4, 5, 1), put("suspended", api.OK, nums(0), 4, 6, 1), put("running", refused, nums(1), 4, 5, 1), put("normal", refused, nums(2), 4, 5, 1), put("state 4", refused, nums(4), 4, 5, 1), put("state -1", refused, big(1<<64-1), 4, 5, 1),
		put("Lib 0", api.OK, lib(0), 4, 6, 2, 0), put("Lib 22", api.OK, lib(22), 4, 6, 2, 0), put("Lib 23", refused, lib(23), 4, 6, 2, 0), put("Lib -1", refused, lib(-1), 4, 6, 2, 0),
	})
}

// P18.4: a limit that New refuses is no machine's, even if there were room.
func TestLeastLimit(t *testing.T) {
	for limit, want := range map[int]api.Errno{0: refused, 1: refused, 23: refused, 24: api.OK, 25: api.OK} {
		c := state(nil, table())
		c.L[0] = nums(limit)
		if m, e := mach.FromState(c); e != want || (m == nil) != (want != api.OK) {
			t.Errorf("FromState with the limit %d = %v, not %v", limit, e, want)
		}
	}
	if _, e := mach.FromState(made(t, 24, 0, 0).State()); e != api.OK {
		t.Errorf("FromState of a full machine = %v", e)
	}
}

// P18.4: values that are none, and such as their place can't have.
func TestValues(t *testing.T) {
	nan := func(bits uint64) api.Cell { return l(nums(3), code.Number(bits)) }
	var changes []change
	// A table's value, its key, a variable.
	for _, path := range [][]int{{4, 1, 1, 1}, {4, 1, 1, 2}, {4, 9, 1, 0}} {
		key, variable := path[3] == 2 && path[1] == 1, path[1] == 9
		unless := func(is bool) api.Errno {
			if is {
				return refused
			}
			return api.OK
		}
		for _, x := range []struct {
			what string
			v    api.Cell
			want api.Errno
		}{
			{"nil", none, unless(!variable)}, {"false", no, api.OK}, {"true", yes, api.OK}, {"0", n(0), api.OK}, {"-0", n(math.Copysign(0, -1)), unless(key)},
			{"NaN", nan(0x7ff8000000000000), unless(key)}, {"another NaN", nan(0x7ff8000000000001), refused}, {"NaN with a sign", nan(0xfff8000000000000), refused}, {"inf", n(math.Inf(1)), api.OK},
			{"no text", s(""), api.OK}, {"a text", s("a\x00\xff b"), api.OK},
			{"the global table", tab(1), refused}, {"a table", tab(2), api.OK}, {"a function", fun(4), api.OK}, {"a thread", co(6), api.OK}, {"a Lib", lib(22), api.OK}, {"no Lib", lib(23), refused}, {"a Lib below 0", lib(-1), refused},
			{"a Box", box(10), refused}, {"a function as a table", tab(3), refused}, {"a table as a function", fun(2), refused}, {"a thread as a function", fun(6), refused}, {"a function as a thread", co(4), refused}, {"a Box as a table", tab(10), refused},
			{"table 0", tab(0), refused}, {"table 12", tab(12), refused}, {"table -1", tab(-1), refused}, {"function 12", fun(12), refused}, {"thread 0", co(0), refused},
			{"kind 10", l(nums(10), nums(2)), refused}, {"kind 10 alone", l(nums(10)), refused}, {"kind -1", l(nums(-1)), refused}, {"kind 2^32", l(nums(1 << 32)), refused},
			{"nil and more", l(nums(0), nums(0)), refused}, {"true and more", l(nums(2), nums(0)), refused}, {"a number and more", l(nums(3), nums(0), nums(0)), refused}, {"nothing", l(), refused}, {"no list", nums(1), refused},
			{"a number without bits", l(nums(3)), refused}, {"a text without it", l(nums(4)), refused}, {"a number of a text", l(nums(3), text("1")), refused}, {"a text of a number", l(nums(4), nums(1)), refused}, {"a table of a text", l(nums(5), text("2")), refused}, {"a Lib of a list", l(nums(8), l()), refused}, {"the kind a text", l(text("0")), refused},
		} {
			changes = append(changes, put(x.what, x.want, x.v, path...))
		}
	}
	try(t, changes)
}

// P18.4: what stands in for tables, what functions and threads have.
func TestSlots(t *testing.T) {
	try(t, []change{
		put("a table that is met already stands in", refused, tab(2), 4, 1, 2), put("nothing stands in", refused, none, 4, 1, 2), put("the global table stands in", refused, tab(1), 4, 8, 2), put("a table for itself", api.OK, tab(9), 4, 8, 2), put("another one", api.OK, tab(2), 4, 8, 2),
		put("a function stands in", refused, fun(3), 4, 8, 2), put("false stands in", refused, no, 4, 8, 2), put("a text", refused, s("x"), 4, 8, 2), put("a Lib", refused, lib(5), 4, 8, 2), put("a Box", refused, box(10), 4, 8, 2),
		put("for the global table", refused, tab(2), 4, 0, 2), put("for the global table itself", refused, tab(1), 4, 0, 2), put("false for it", refused, no, 4, 0, 2),
		put("no Box of a function", refused, n(5), 4, 2, 3, 0), put("nil", refused, none, 4, 2, 3, 0), put("a table", refused, tab(2), 4, 2, 3, 0), put("Box 12", refused, box(12), 4, 2, 3, 0), put("Box 0", refused, box(0), 4, 2, 3, 0), put("a table as a Box", refused, box(9), 4, 2, 3, 0), put("a later Box first", refused, box(11), 4, 2, 3, 0), put("a Box for both variables", refused, box(10), 4, 4, 3, 0),
		put("a thread of a table", refused, tab(2), 4, 5, 2, 0), put("of nothing", refused, none, 4, 5, 2, 0), put("of a thread", refused, co(6), 4, 5, 2, 0), put("of a Box", refused, box(10), 4, 5, 2, 0), put("of a Lib", api.OK, lib(3), 4, 5, 2, 0), put("of another function", api.OK, fun(8), 4, 5, 2, 0), put("of function 12", refused, fun(12), 4, 5, 2, 0),
		put("no slot of a function", refused, l(), 4, 2, 3), put("two", refused, l(box(10), box(11)), 4, 2, 3), put("a slot of one without ups", refused, l(box(10)), 4, 7, 3),
		put("no slot of a Box", refused, l(), 4, 9, 1), put("two slots of a Box", refused, l(n(5), n(5)), 4, 9, 1), put("no slot of a thread", refused, l(), 4, 5, 2), put("two slots of a thread", refused, l(fun(3), fun(3)), 4, 5, 2),
	})
}

// P18.4: keys that stand twice, in whichever forms; global variables that no script can name.
func TestKeys(t *testing.T) {
	pairs := func(what string, want api.Errno, pairs ...api.Cell) change {
		return put(what, want, l(pairs...), 4, 8, 1)
	}
	changes := []change{
		pairs("two keys", api.OK, n(1), yes, n(2), yes), pairs("one twice", refused, n(1), yes, n(1), yes), pairs("one twice, apart", refused, n(1), yes, n(2), yes, n(1), no),
		pairs("0 and -0", refused, n(0), yes, n(math.Copysign(0, -1)), yes), pairs("-0", refused, n(math.Copysign(0, -1)), yes), pairs("a text twice", refused, s("a"), yes, s("a"), no), pairs("1 and \"1\"", api.OK, n(1), yes, s("1"), no),
		pairs("a table twice", refused, tab(2), yes, tab(2), no), pairs("a table, a function", api.OK, tab(2), yes, fun(3), no), pairs("true twice", refused, yes, yes, yes, yes), pairs("a Lib twice", refused, lib(3), yes, lib(3), yes),
		pairs("nil as a value", refused, n(1), none), pairs("nil as a key", refused, none, n(1)), pairs("NaN as a key", refused, n(math.NaN()), n(1)), pairs("three", refused, n(1), yes, n(2)), pairs("one", refused, n(1)), pairs("a Box as a key", refused, box(10), yes), pairs("a Box as a value", refused, yes, box(10)),
	}
	for name, want := range map[string]api.Errno{
		"x": api.OK, "_": api.OK, "_9a": api.OK, "Nil": api.OK, "random": api.OK, "t1": api.OK, strings.Repeat("n", 60000): api.OK,
		"": refused, "nil": refused, "end": refused, "9": refused, "a b": refused, "a ": refused, " a": refused, "a.b": refused, "a--": refused, "\xe4": refused, "a\n": refused, "t": refused, "\"a\"": refused, "+": refused,
	} {
		changes = append(changes, change{"the global variable " + name, func(c *api.Cell) { p := under(c, []int{4, 0, 1}); p.L = append(p.L, s(name), yes) }, want})
	}
	for _, key := range []api.Cell{n(1), yes, no, tab(2), fun(3), co(6), lib(3)} {
		changes = append(changes, change{"no name", func(c *api.Cell) { p := under(c, []int{4, 0, 1}); p.L = append(p.L, key, yes) }, refused})
	}
	try(t, changes)
}

// P18.4: objects in another order, that can't be reached, or are missing.
func TestOrder(t *testing.T) {
	add := func(what string, object api.Cell) change {
		return change{what, func(c *api.Cell) { c.L[4].L = append(c.L[4].L, object) }, refused}
	}
	changes := []change{
		add("a table that can't be reached", table()), add("one that has itself", table(n(1), tab(12))), add("a function that can't be reached", function(0, 1, box(10))), add("a thread", thread(0, fun(3))), add("a Box", boxed(n(1))), add("a Box as the one there", boxed(n(6))),
		put("no objects", refused, l(), 4), put("the first is a function", refused, function(1, 1), 4, 0), put("the first is a thread", refused, thread(0, lib(1)), 4, 0), put("the first is a Box", refused, boxed(none), 4, 0), put("an empty global table", refused, table(), 4, 0),
		put("nothing to reach it by", refused, yes, 4, 0, 1, 1), put("another one first", refused, fun(4), 4, 0, 1, 3), put("the same once more", refused, fun(3), 4, 0, 1, 5),
		{"two globals turned", func(c *api.Cell) { p := c.L[4].L[0].L[1].L; p[0], p[2] = p[2], p[0]; p[1], p[3] = p[3], p[1] }, refused},
		{"two global names turned", func(c *api.Cell) { p := c.L[4].L[0].L[1].L; p[0], p[2] = p[2], p[0] }, api.OK},
		{"two functions turned, and their numbers", func(c *api.Cell) {
			swapFunctions(c)
			p := c.L[4].L[0].L[1].L
			p[3], p[5] = p[5], p[3]
		}, refused},
		{"two functions turned", swapFunctions, api.OK},
	}
	// Functions that are turned about, threads, Boxes: these are other States, as long as each Box and script is met in its turn.
	others := map[[2]int]api.Errno{{3, 2}: api.OK, {4, 3}: api.OK, {7, 3}: api.OK, {7, 4}: api.OK, {6, 5}: api.OK, {10, 9}: api.OK}
	for i := range 11 {
		for k := range i {
			want, other := others[[2]int{i, k}]
			if !other {
				want = refused
			}
			changes = append(changes, swap("objects turned: "+decimal(i)+", "+decimal(k), want, i, k, 4))
		}
	}
	try(t, changes)
}

// swapFunctions turns the functions f and g about, which both have n's Box.
func swapFunctions(c *api.Cell) { p := c.L[4].L; p[2], p[3] = p[3], p[2] }

// P18.4: scripts that can't be, that have no function here, or stand in another order.
func TestScripts(t *testing.T) {
	try(t, []change{
		swap("turned", refused, 0, 1, 3), put("none", refused, l(), 3), put("one more", refused, l(text(first), text(second), text(second)), 3), put("one more ahead", refused, l(text(second), text(first), text(second)), 3), put("one less", refused, l(text(first)), 3),
		put("no script", refused, text("f ="), 3, 1), put("a break in no loop", refused, text(second+" break"), 3, 1), put("too long", refused, text(second+strings.Repeat(" ", 1<<16)), 3, 1), put("just not too long", api.OK, text(second+strings.Repeat(" ", 1<<16-len(second))), 3, 1),
		put("an empty one", refused, text(""), 3, 1), put("without functions", refused, text("x = 1"), 3, 1), put("another one with a function", api.OK, text("return function(a, b) end"), 3, 1), put("one whose function has an up", refused, text("local a = 1 return function() return a end"), 3, 1),
		put("another one with Boxes", api.OK, text("local p local q return {function() p = 1 end, function() return p end, function() return q end}"), 3, 0),
		put("another one with other Boxes", refused, text("local p local q return {function() p = 1 end, function() return q end, function() return q end}"), 3, 0),
		put("both the same", refused, text(first), 3, 1),
		{"a function of each", func(c *api.Cell) { c.L[4].L[4].L[1] = nums(1) }, refused},
		{"the second first", func(c *api.Cell) { c.L[4].L[2].L[1] = nums(1) }, refused},
	})
}

// P18.4: a Box is one variable of one script, whichever functions share it.
func TestBoxes(t *testing.T) {
	deep := "local a = 1 local b = 2 f = function() return function() return a + b end end g = f() h = function() return b + a end"
	same := state([]string{deep}, table(s("f"), fun(2), s("g"), fun(3), s("h"), fun(4)), function(0, 1, box(5), box(6)), function(0, 2, box(5), box(6)), function(0, 3, box(6), box(5)), boxed(n(1)), boxed(n(2)))
	m := made(t, 200, 2000, 9)
	give(t, m, command{bare, done("nil")}, command{deep, done("nil")})
	holds(t, "shared through a function", m, same)
	for _, x := range []struct {
		what    string
		scripts []string
		objects []api.Cell
		want    api.Errno
	}{
		{"crosswise", []string{deep}, []api.Cell{table(s("g"), fun(2), s("h"), fun(3)), function(0, 2, box(4), box(5)), function(0, 3, box(4), box(5)), boxed(n(1)), boxed(n(2))}, refused},
		{"apart", []string{deep}, []api.Cell{table(s("g"), fun(2), s("h"), fun(3)), function(0, 2, box(4), box(5)), function(0, 3, box(6), box(7)), boxed(n(1)), boxed(n(2)), boxed(n(3)), boxed(n(4))}, api.OK},
		{"one Box twice", []string{deep}, []api.Cell{table(s("g"), fun(2)), function(0, 2, box(3), box(3)), boxed(n(1))}, refused},
		{"a function and one within", []string{"function_ = 1 local a return function() local b return function() return a == b end end"}, []api.Cell{table(s("f"), fun(2), s("g"), fun(3)), function(0, 1, box(4)), function(0, 2, box(4), box(5)), boxed(no), boxed(yes)}, api.OK},
		{"a function's own and that about it", []string{"local a return function() local b = a return function() return b end end"}, []api.Cell{table(s("f"), fun(2), s("g"), fun(3)), function(0, 1, box(4)), function(0, 2, box(4)), boxed(no)}, refused},
		{"of two scripts", []string{"local a return function() return a end", "local a return function() return a end"}, []api.Cell{table(s("f"), fun(2), s("g"), fun(3)), function(0, 1, box(4)), function(1, 1, box(4)), boxed(no)}, refused},
		{"of two scripts, apart", []string{"local a return function() return a end", "local a return function() return a end"}, []api.Cell{table(s("f"), fun(2), s("g"), fun(3)), function(0, 1, box(4)), function(1, 1, box(5)), boxed(no), boxed(no)}, api.OK},
	} {
		c := state(x.scripts, x.objects...)
		if m, e := mach.FromState(c); e != x.want || (m == nil) != (e != api.OK) || isState(c) != (e == api.OK) {
			t.Errorf("%s: FromState(%v) = %v, not %v", x.what, c, e, x.want)
		}
	}
}

// P18.4: what can't be Encoded is no State: too many bytes, lists too deep, kinds that are none.
func TestNotEncoded(t *testing.T) {
	fill := func(bytes int) api.Cell {
		c := whole()
		c.L[4].L[1].L[1].L[1] = s("")
		b, _ := code.Encode(c)
		c.L[4].L[1].L[1].L[1] = s(strings.Repeat("x", bytes-len(b)))
		return c
	}
	for bytes, want := range map[int]api.Errno{1 << 20: api.OK, 1<<20 + 1: refused, 1 << 21: refused} {
		if _, e := mach.FromState(fill(bytes)); e != want {
			t.Errorf("FromState of %d bytes = %v, not %v", bytes, e, want)
		}
	}
	ring := make([]api.Cell, 5)
	for i := range ring {
		ring[i] = api.Cell{K: api.CellList, L: ring}
	}
	for _, c := range []api.Cell{{}, {K: 1}, {K: 2}, {K: 3}, {K: -1}, {K: 2, L: ring}, {K: 2, L: []api.Cell{nums(200), nums(2000), nums(9), l(), {K: 2, L: ring}}}} {
		if m, e := mach.FromState(c); e != refused || m != nil {
			t.Errorf("FromState = %v, %v", m, e)
		}
	}
}
