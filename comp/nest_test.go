package comp_test

import (
	"math/rand"
	"strings"
	"testing"
)

// Exps and statements with holes: an @ is for an exp, a $ for a block. The names in them are variables of every sort: l a function's own, s one that a function within shares, u one of the function about it, g a global one, t and f a table and a function.
var (
	leaves = []string{"nil", "false", "true", "2", `"a"`, "l", "s", "u", "g", "t", "f", "{}", "function(p) return p end", "function() s = l return u end"}
	exps   = []string{
		"-@", "not @", "#@",
		"@ + @", "@ - @", "@ * @", "@ / @", "@ % @", "@ .. @", "@ == @", "@ ~= @", "@ < @", "@ <= @", "@ > @", "@ >= @",
		"@ and @", "@ or @", "@[@]", "@.x", "@()", "@(@)", "@(@, @)", "pcall(@, @)", "note(@, @)",
		"{@}", "{@, @}", "{x = @}", "{[@] = @}", "{@, x = @, @; [@] = @}",
		"function() return @ end", "function(p) l = p return @ end", "(function(p) u = p return @ end)(@)", "(function(s) return function() s = @ return s end end)(@)()",
	}
	stats = []string{
		"local l = @", "local s = @ local function h() s = @ end h()", "local l", "local s f(function() s = @ end)",
		"l = @", "s = @", "u = @", "g = @", "t.x = @", "t[@] = @", "note();(@)[@] = @", "f(@)", "note(@, @)",
		"if @ then $ end", "if @ then $ else $ end", "if @ then $ elseif @ then $ else $ end",
		"while @ do $ end", "while @ do $ if @ then break end end", "for l = @, 3 do $ end", "for s = 1, @, @ do $ note(s) f(function() return s end) end", "for i = 3, 1, -1 do if i == @ then break end do $ end u = i end",
		"do $ end", "do local l = @ do $ end note(l) end", "do return @ end", "return", "break", "do break end",
		"local function l(p) $ end l(@)", "local function s() s = @ $ end s()", "l = function() u = @ $ end l()", "pcall(function() $ end)",
	}
)

// about is a script in which one may stand at the place of the #.
func about(what string) string {
	return strings.ReplaceAll(`g = 7 local u = 4 local t = {5, x = 6} local function f(p, q) u = u + 1 return p end
local function run(n) local l = 2 local s = 3 local function h() s = s + 1 return u end # note(l, s, u, g, t.x) return l end
note(pcall(run, 1)[2]) return run(2)`, "#", what)
}

// fill fills the holes of one sort, in order, each with the next one.
func fill(form, hole string, next func() string) string {
	var s strings.Builder
	for i, part := range strings.Split(form, hole) {
		if i > 0 {
			s.WriteString(next())
		}
		s.WriteString(part)
	}
	return s.String()
}

// bracketed are exps in brackets, from one place of the list on, round and round.
func bracketed(list []string, from int) func() string {
	return func() string {
		from++
		return "(" + list[(from-1)%len(list)] + ")"
	}
}

// filledExps are all exps whose holes have none.
func filledExps() []string {
	all := leaves
	for i, form := range exps {
		all = append(all, fill(form, "@", bracketed(leaves, i+3)))
	}
	return all
}

// mostlyMild tells exps most of which no statement fails with.
func mostlyMild() func() string {
	mild := []string{"l", "s", "u", "2", "g", "nil", "true", "l + s", "s == 3", "f(u)", "not l", "s < 3", "l or s"}
	all := filledExps()
	turn := 0
	return func() string {
		turn++
		if turn%5 == 0 {
			return "(" + all[turn/5%len(all)] + ")"
		}
		return "(" + mild[turn*turn%len(mild)] + ")"
	}
}

// P14.1: every kind of exp, every two of them in one another, side by side.
func TestExpsInExps(t *testing.T) {
	r := rand.New(rand.NewSource(1))
	all := filledExps()
	for _, form := range append(exps, "@") {
		for i := range all {
			for j := range all {
				if !strings.Contains(strings.Replace(form, "@", "", 1), "@") && j > 0 {
					break
				}
				pair := []string{all[i], all[j]}
				s := about("do return " + fill(form, "@", bracketed(pair, 0)) + " end")
				mustDo(t, r, s, 2000, (i*len(all)+j)%13/12)
			}
		}
	}
}

// P14.1: every kind of statement, every three of them in one another; breaks that are in no loop are scope's.
func TestStatsInStats(t *testing.T) {
	r := rand.New(rand.NewSource(2))
	exp := mostlyMild()
	block := func(stat string) func() string { return func() string { return stat } }
	for _, outer := range stats {
		for _, middle := range stats {
			for _, inner := range stats {
				s := fill(outer, "$", block(fill(middle, "$", block(fill(inner, "$", block("note(l, s)"))))))
				mustDo(t, r, about(fill(s, "@", exp)), 600, r.Intn(2))
				if !strings.Contains(middle, "$") {
					break
				}
			}
			if !strings.Contains(outer, "$") {
				break
			}
		}
	}
}

// P14.1: one statement behind another, in one block: variables of the same names come on top of one another.
func TestStatsBehindStats(t *testing.T) {
	r := rand.New(rand.NewSource(3))
	exp := mostlyMild()
	inner := func() string { return "note(l, s) local l = 1 u = l" }
	for _, first := range stats {
		for _, second := range stats {
			if first == "return" {
				continue
			}
			s := fill(first, "$", inner) + " local k = s " + fill(second, "$", inner)
			s = fill(s, "@", exp)
			mustDo(t, r, about("do "+s+" end"), 600, 1)
			mustDo(t, r, about("while l do "+s+" end"), 600, 1)
			mustDo(t, r, about("for s = 1, 2 do "+s+" end"), 600, 1)
		}
	}
}

// P14.1: functions in functions, each with variables of its own and of all about it, called where they are made and behind that.
func TestFunctionsInFunctions(t *testing.T) {
	r := rand.New(rand.NewSource(4))
	for i := range 1500 {
		var s strings.Builder
		deep := 1 + i%6
		names := []string{"a", "b", "c", "d"}
		one := func() string { return names[r.Intn(len(names))] }
		for range deep {
			s.WriteString("local " + one() + " = " + one() + " or 1 local " + one() + " " + one() + " = 2 for " + one() + " = 1, 2 do ")
			s.WriteString("local function " + one() + "(" + one() + ", " + one() + ") note(" + one() + ", " + one() + ") " + one() + " = 3 ")
		}
		for range deep {
			s.WriteString(" return " + one() + " end note(pcall(" + one() + ", 5, 6)[2]) if " + one() + " == 3 then break end l = {" + one() + ", " + one() + "} end note(" + one() + ") ")
			s.WriteString("do local " + one() + " = l[1] if l[2] == 3 then pcall(l[1], 7) end end")
		}
		mustDo(t, r, s.String(), 3000, 2)
	}
}
