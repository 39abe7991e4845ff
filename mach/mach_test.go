package mach_test

import (
	"strconv"
	"strings"
	"testing"

	"minstrel/api"
	"minstrel/code"
	"minstrel/mach"
	"minstrel/vm"
)

// done, failed, ended are replies.
func done(text string) api.Reply   { return api.Reply{End: api.Done, Text: text} }
func failed(text string) api.Reply { return api.Reply{End: api.Failed, Text: text} }
func ended(end int) api.Reply      { return api.Reply{End: end} }

// bad is the reply to a script that can't be read.
func bad(text string) api.Reply { return api.Reply{End: api.BadScript, Text: text} }

// made is a new machine.
func made(t *testing.T, limit, fuel int, seed uint64) *mach.Machine {
	t.Helper()
	m, e := mach.New(limit, fuel, seed)
	if e != api.OK || m == nil {
		t.Fatalf("New(%d, %d, %d) = %v, %v", limit, fuel, seed, m, e)
	}
	return m
}

// command is a script, and what is answered.
type command struct {
	script string
	want   api.Reply
}

// give lets a machine do commands one behind the other.
func give(t *testing.T, m *mach.Machine, commands ...command) {
	t.Helper()
	for _, c := range commands {
		if got := m.Exec(c.script); got != c.want {
			t.Errorf("Exec(%.99q) = %v, not %v", c.script, got, c.want)
		}
	}
}

// P18.1: which limits and fuels there may be, and which error comes first.
func TestNew(t *testing.T) {
	const cells, fuel, least = 1 << 20, 1 << 20, 1 << 63
	for _, x := range []struct {
		limit, fuel int
		want        api.Errno
	}{
		{100, 0, api.OK}, {100, 1, api.OK}, {100, fuel, api.OK}, {100, fuel + 1, api.ErrArg}, {100, -1, api.ErrArg}, {100, -least, api.ErrArg}, {100, least - 1, api.ErrArg},
		{-1, 5, api.ErrArg}, {-least, 5, api.ErrArg}, {cells + 1, 5, api.ErrArg}, {least - 1, 5, api.ErrArg},
		{cells, 5, api.OK}, {24, 5, api.OK}, {23, 5, api.ErrLong}, {1, 5, api.ErrLong}, {0, 5, api.ErrLong},
		{23, -1, api.ErrArg}, {0, fuel + 1, api.ErrArg}, {23, fuel, api.ErrLong}, {23, 0, api.ErrLong}, {-1, -1, api.ErrArg},
	} {
		m, e := mach.New(x.limit, x.fuel, 7)
		if e != x.want || (m == nil) != (x.want != api.OK) {
			t.Errorf("New(%d, %d, 7) = %v, %v, not %v", x.limit, x.fuel, m, e, x.want)
		}
		if m != nil && !code.Same(m.State(), newBench(x.limit, x.fuel, 7).state()) {
			t.Errorf("New(%d, %d, 7) has the State %v", x.limit, x.fuel, m.State())
		}
	}
}

// P18.1: the world is vm.New's: its built-in functions, its chance, its room.
func TestNewWorld(t *testing.T) {
	for _, seed := range []uint64{0, 1, 1<<64 - 1} {
		m := made(t, 100, 100, seed)
		w, _ := vm.New(100, seed)
		if got := m.State(); got.L[2].N != w.Seed() || got.L[0].N != 100 || got.L[1].N != 100 {
			t.Errorf("New(100, 100, %d) has the State %v", seed, got)
		}
		for n := range api.LibCount {
			give(t, m, command{"return type(" + vm.LibName(n) + ")", done("function")})
		}
		give(t, m, command{"return globals", done("nil")})
	}
}

// P18.2, P18.6: the chapter's example.
func TestExample(t *testing.T) {
	m := made(t, 100, 100, 1)
	give(t, m, command{"x = 1", done("nil")}, command{"return x + 1", done("2")}, command{"x = 2 error(5)", failed("5")}, command{"return x", done("1")})
}

// P18.2: of scripts that can't be read the error and the place are told: those of the words, the tree, the names, the function.
func TestBadScript(t *testing.T) {
	m := made(t, 100, 1000, 1)
	give(t, m, command{"x = 1", done("nil")})
	was := m.State()
	deep := strings.Repeat("(", 101) + "1" + strings.Repeat(")", 101)
	give(t, m,
		command{"x = ", bad("4 4")},
		command{"x = 1e", bad("4 5")},
		command{"x = 5 ! 6", bad("4 6")},
		command{"x = \"\\q\"", bad("4 5")},
		command{"x = 5 break", bad("7 6")},
		command{"x = 5 " + strings.Repeat(" ", 1<<16), bad("2 0")},
		command{"return " + deep, bad("2 107")},
		command{"x = 5 return " + strings.Repeat("9", 401), bad("2 13")},
		command{"x = 5 local a = " + strings.Repeat("{", 101), bad("2 116")},
		command{strings.Repeat("f=function()end ", 4096), bad("2 43691")},
	)
	if !code.Same(m.State(), was) {
		t.Errorf("scripts that can't be read left %v, not %v", m.State(), was)
	}
	give(t, m, command{"return x", done("1")})
}

// P18.2: the text of an answer, and of an error, of each kind of value.
func TestText(t *testing.T) {
	for exp, want := range map[string]string{
		"nil": "nil", "false": "false", "true": "true", "1.5": "1.5", "-0": "-0", "0/0": "nan", "-1/0": "-inf", "0.1 + 0.2": "0.30000000000000004",
		`""`: "", `"a b"`: "a b", `"\n\"\\"`: "\n\"\\", `char(0) .. char(255)`: "\x00\xff",
		"{}": "table", "function() end": "function", "abs": "function", "create(abs)": "thread",
	} {
		m := made(t, 100, 1000, 1)
		give(t, m,
			command{"return " + exp, done(want)},
			command{"error(" + exp + ")", failed(want)},
			command{"x = " + exp + " return x", done(want)},
			command{"return x", done(want)},
			command{"local a = pcall(error, x) return a[2]", done(want)},
		)
	}
	give(t, made(t, 100, 1000, 1), command{"", done("nil")}, command{"-- nothing", done("nil")}, command{"return", done("nil")}, command{"x = 7", done("nil")})
}

// P18.2: errors of the machine's own are told by their texts.
func TestFailed(t *testing.T) {
	m := made(t, 100, 1000, 1)
	for script, want := range map[string]string{
		"return 1 + nil": "arith", "return nil .. 1": "concat", "x()": "call", "return x.k": "index", "x.k = 1": "index", "local t = {} t[nil] = 1": "key", "local t = {} t[0/0] = 1": "key",
		"return 1 < \"\"": "compare", "return #1": "len", "for i = 1, 2, 0 do end": "for", "yield(1)": "yield", "resume(1)": "resume", "return rep(\"ab\", 9000)": "long", "char(256)": "text", "error()": "nil",
	} {
		give(t, m, command{script, failed(want)})
	}
}

// P18.2: the other ends have no text; with as much fuel as is paid it is Done.
func TestEnds(t *testing.T) {
	give(t, made(t, 100, 4, 1), command{"return 1 + 2", done("3")}, command{"return 1 + 2 + 3", ended(api.NoFuel)}, command{"return 1 + 2", done("3")})
	give(t, made(t, 100, 3, 1), command{"return 1 + 2", ended(api.NoFuel)}, command{"return 3", done("3")})
	give(t, made(t, 100, 0, 1), command{"", done("nil")}, command{"local a", done("nil")}, command{"return", ended(api.NoFuel)}, command{"x =", bad("4 3")})
	m := made(t, 100, 1<<20, 1)
	give(t, m,
		command{"while true do end", ended(api.NoFuel)},
		command{"while true do local t = {} end", ended(api.NoRoom)},
		command{"local t = {} for i = 1, 76 do t[i] = i end", ended(api.NoRoom)},
		command{"local t = {} for i = 1, 75 do t[i] = i end return #t", done("75")},
		command{"local function f() return f() + 1 end f()", ended(api.NoStack)},
		command{"local function f(n) if n > 0 then return f(n - 1) + 1 end return 0 end return f(198)", done("198")},
		command{"local function f(n) if n > 0 then return f(n - 1) + 1 end return 0 end return f(199)", ended(api.NoStack)},
		command{"local a = pcall(function() local b = {} for i = 1, 99 do b[i] = i end end)", ended(api.NoRoom)},
	)
}

// P18.2: each command has all of the machine's fuel, whatever those ahead of it paid.
func TestFuelIsEachCommands(t *testing.T) {
	m := made(t, 100, 10, 1)
	for range 50 {
		give(t, m, command{"return 1 + 2 + 3 + 4 + 5", done("15")}, command{"return 1 + 2 + 3 + 4 + 5 + 6", ended(api.NoFuel)})
	}
}

// P18.2, P18.3: what a command drops is room for those behind it.
func TestRoomComesBack(t *testing.T) {
	m := made(t, 60, 1000, 1)
	for range 50 {
		give(t, m, command{"t = {} for i = 1, 30 do t[i] = i end", done("nil")}, command{"t = nil", done("nil")})
	}
	give(t, m, command{"t = {} for i = 1, 30 do t[i] = i end", done("nil")}, command{"t = {} for i = 1, 30 do t[i] = i end", ended(api.NoRoom)}, command{"return #t", done("30")})
}

// wide is a script that keeps 65 texts of 16000 bytes each.
const wide = "t = {} local s = rep(\"abcd\", 4000) for i = 1, 65 do t[i] = s end"

// P18.2, P18.6: a state that is too great to be Encoded is NoRoom, and is not taken.
func TestTooGreat(t *testing.T) {
	m := made(t, 1000, 10000, 1)
	give(t, m, command{"x = 1", done("nil")})
	was := m.State()
	bytes, _ := code.Encode(was)
	give(t, m, command{wide + " x = random() return x < 1", done("true")})
	m, _ = mach.FromState(was)
	give(t, m, command{wide + " t[66] = rep(\"x\", 10000) x = 2 random() return 5", ended(api.NoRoom)})
	if !code.Same(m.State(), was) {
		t.Errorf("a state that is too great left %v", m.State())
	}
	// To the byte: what is there, the key t and its value, 65 keys, and what one text more takes.
	room := 1<<20 - len(bytes) - (5 + 9 + 5 + 1) - (5 + 9 + 9) - (5 + 9 + 5 + 5 + 9) - 65*(5+9+9+5+9+5+16000) - (5 + 9 + 9 + 5 + 9 + 5)
	for _, x := range []struct {
		more int
		want api.Reply
	}{{1, ended(api.NoRoom)}, {0, done("9")}, {-1, done("9")}} {
		m, _ := mach.FromState(was)
		give(t, m, command{wide + " t[66] = rep(\"x\", " + decimal(room+x.more) + ") return 9", x.want})
		if b, e := code.Encode(m.State()); e != api.OK || x.want.End == api.Done && len(b) != 1<<20+x.more {
			t.Errorf("with %d bytes more it has %d bytes, %v", x.more, len(b), e)
		}
	}
}

// decimal is a number's digits.
func decimal(n int) string { return strconv.Itoa(n) }

// P18.2: scripts' texts are of the state, too: it may be these that are too many.
func TestScriptsTooGreat(t *testing.T) {
	m := made(t, 1000, 1000, 1)
	long := " = function() end -- " + strings.Repeat("x", 65000)
	for i := range 16 {
		give(t, m, command{"f" + decimal(i) + long, done("nil")})
	}
	was := m.State()
	give(t, m, command{"g" + long, ended(api.NoRoom)}, command{"return g", done("nil")})
	if !code.Same(m.State(), was) {
		t.Error("a script that is too great was taken")
	}
	give(t, m, command{"f3" + long, done("nil")}, command{"f3 = nil", done("nil")}, command{"g" + long, done("nil")})
}
