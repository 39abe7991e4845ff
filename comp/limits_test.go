package comp_test

import (
	"strconv"
	"strings"
	"testing"

	"minstrel/api"
	"minstrel/comp"
	"minstrel/prog"
)

// mustReach: of scripts that grow, the one of such a size is taken, and does what its tree says; the next one is refused with ErrLong, as scope does.
func mustReach(t *testing.T, name string, size int, grown func(size int) string) script {
	t.Helper()
	x, ok := mustTell(t, grown(size))
	if !ok {
		t.Fatalf("%s, %d: is not taken", name, size)
	}
	mustRun(t, x, api.MaxFuel, roomy)
	if _, at, e := comp.Script(grown(size + 1)); e != api.ErrLong {
		t.Errorf("%s, %d: %d, %d", name, size+1, at, e)
	}
	mustTell(t, grown(size+1))
	return x
}

// many is a text so often, with something between.
func many(count int, s, between string) string {
	return strings.TrimSuffix(strings.Repeat(s+between, count), between)
}

// numbered are so many names.
func numbered(count int, between string) string {
	var l []string
	for i := range count {
		l = append(l, "v"+strconv.Itoa(i))
	}
	return strings.Join(l, between)
}

// P14.1, P14.2: the limits of scripts that Check asks for too: parameters, arguments, ups; and those of variables, bytes and words.
func TestLimits(t *testing.T) {
	x := mustReach(t, "parameters", 30, func(n int) string {
		return "return (function(" + numbered(n, ", ") + ") return v0 + v" + strconv.Itoa(n-1) + " end)(" + many(30, "4", ", ") + ")"
	})
	if x.p.Protos[0].Params != 30 {
		t.Error(x.p.Protos[0].Params)
	}
	mustReach(t, "arguments", 30, func(n int) string {
		return "return (function(" + numbered(30, ", ") + ") return v29 end)(" + many(n, "1", ", ") + ")"
	})
	x = mustReach(t, "ups", 60, func(n int) string {
		return "local " + numbered(n, " = 3 local ") + " = 4 return (function() return " + numbered(n, " + ") + " end)()"
	})
	if len(x.p.Protos[0].Ups) != 60 {
		t.Error(len(x.p.Protos[0].Ups))
	}
	x = mustReach(t, "ups of ups", 60, func(n int) string {
		return "local " + numbered(n, " = 3 local ") + " = 4 return (function() return function() return " + numbered(n, " + ") + " end end)()()"
	})
	if l := prog.Flat(x.p); len(l[1].Ups) != 60 || len(l[2].Ups) != 60 {
		t.Error(len(l[1].Ups), len(l[2].Ups))
	}
	mustReach(t, "variables", 200, func(n int) string {
		return "local " + numbered(n, " = 1 local ") + " = 2 return v0 + v" + strconv.Itoa(n-1)
	})
	mustReach(t, "shared variables", 200, func(n int) string {
		return "local " + numbered(n, " = 1 local ") + " = 2 v0 = function() return v" + strconv.Itoa(n-1) + " end return v0()"
	})
	mustReach(t, "bytes", 65536, func(n int) string { return "return 1" + strings.Repeat(" ", n-8) })
	mustReach(t, "bytes of a comment", 65536, func(n int) string { return "return 1--" + strings.Repeat("x", n-10) })
	mustReach(t, "bytes of a text", 16384, func(n int) string { return `return "` + strings.Repeat("x", n) + `"` })
	mustReach(t, "digits", 400, func(n int) string { return "return " + strings.Repeat("1", n) })
}

// P14.1, P14.2: as much in one another as a script may have.
func TestDeepest(t *testing.T) {
	for name, c := range map[string]struct {
		size         int
		open, shut   string
		ahead, there string
	}{
		"functions":      {99, "local function f() ", " end return f()", "", "return 5"},
		"functions' ups": {99, "local a = a + b local function f() b = a ", " end f()", "local a = 1 local b = 2 ", "x = a y = b"},
		"blocks":         {99, "do local a = 1 ", " end", "", "x = a"},
		"ifs":            {99, "if 1 then ", " end", "", "x = 1"},
		"elses":          {99, "if nil then else ", " end", "", "x = 1"},
		"whiles":         {99, "while 1 do ", " break end", "", "x = 1"},
		"fors":           {99, "for i = 1, 1 do ", " end", "", "x = i"},
		"shared fors":    {98, "for i = 1, 1 do f = function() return i end ", " end", "", "x = i"},
		"brackets":       {99, "(", ")", "return ", "5"},
		"tables":         {99, "{", "}", "return ", "5"},
		"keys":           {99, "{[", "] = 1}", "return ", "5"},
		"indexes":        {99, "t[", "]", "t = {} t[1] = 1 return ", "1"},
		"nots":           {99, "not ", "", "return ", "5"},
		"joins":          {99, "1 .. ", "", "return ", "5"},
		"arguments":      {99, "note(", ")", "return ", "5"},
	} {
		mustReach(t, name, c.size, func(n int) string {
			return c.ahead + strings.Repeat(c.open, n) + c.there + strings.Repeat(c.shut, n)
		})
	}
	mustReach(t, "elseifs", 98, func(n int) string { return "if nil then " + strings.Repeat("elseif nil then ", n) + "else x = 1 end" })
}

// P14.1, P14.2: scripts that come near to the limits of functions; none is known that reaches those of registers, orders, constants and functions.
func TestGreatest(t *testing.T) {
	level := "f(" + many(29, "1", ",") + ",1==1+1*"
	for name, c := range map[string]struct {
		s     string
		least int
		of    func(p api.Proto) int
	}{
		"registers": {"local " + numbered(200, " local ") + " f = function(a) return 1 end g.x = 1 == 1 + 1 * " + strings.Repeat(level, 99) + "1" + strings.Repeat(")", 99), 3400, func(p api.Proto) int { return p.Regs }},
		"constants": {"return {" + numbered(8190, ",") + "}", 16380, func(p api.Proto) int { return len(p.Consts) }},
		"orders":    {"return {" + strings.Repeat("a,", 8190) + "}", 24000, func(p api.Proto) int { return len(p.Code) }},
		"items":     {"return {" + strings.Repeat("1,", 8190) + "}", 8190, func(p api.Proto) int { return len(p.Consts) }},
		"loops":     {strings.Repeat("while nil do end ", 3855), 11000, func(p api.Proto) int { return len(p.Code) }},
		"shared":    {"local a = 1 return {" + strings.Repeat("function()return a end,", 2339) + "}", 2339, func(p api.Proto) int { return len(p.Protos) }},
		"functions": {"return {" + strings.Repeat("function()end,", 3276) + "}", 3277, func(p api.Proto) int { return len(prog.Flat(p)) }},
		"returns":   {"local function f(a)end " + strings.Repeat("do return end ", 4600), 9200, func(p api.Proto) int { return len(p.Code) }},
		"breaks":    {"while 1 do " + strings.Repeat("break ", 10900) + "end", 10900, func(p api.Proto) int { return len(p.Code) }},
		"sums":      {"return 1" + strings.Repeat(" + 1", 8000), 16000, func(p api.Proto) int { return len(p.Code) }},
		"ands":      {"return 1" + strings.Repeat(" and 1", 8000), 16000, func(p api.Proto) int { return len(p.Code) }},
		"dots":      {"t = {} t.t = t return t" + strings.Repeat(".t", 8000), 16000, func(p api.Proto) int { return len(p.Code) }},
		"calls":     {"local function f() return f end return f" + strings.Repeat("()", 8000), 8000, func(p api.Proto) int { return len(p.Code) }},
	} {
		x, ok := mustTell(t, c.s)
		if !ok {
			_, at, e := comp.Script(c.s)
			t.Fatalf("%s: is not taken: %d, %d", name, at, e)
		}
		if got := c.of(x.p); got < c.least {
			t.Errorf("%s: only %d", name, got)
		}
		mustRun(t, x, api.MaxFuel, roomy)
	}
}

// P14.1: so many constants that each has to be found again, of all kinds, and numbers that are texts too.
func TestConstants(t *testing.T) {
	var s strings.Builder
	s.WriteString("local t = {} ")
	for i := range 1400 {
		n := strconv.Itoa(i % 700)
		s.WriteString("t[" + n + `] = "` + n + `" t.x` + n + " = " + n + " ")
	}
	s.WriteString(`x0 = 0 return t[699] .. t.x699 .. t["x5"] .. t[5] .. x0 .. #t`)
	x, ok := mustTell(t, s.String())
	if !ok {
		t.Fatal("is not taken")
	}
	if out := mustRun(t, x, api.MaxFuel, roomy); out.End != api.Done || out.V.S != "699699550699" {
		t.Error(told(out))
	}
}
