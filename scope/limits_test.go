package scope_test

import (
	"fmt"
	"strings"
	"testing"

	"minstrel/api"
	"minstrel/scope"
)

// some are words one behind the other, each with its number.
func some(form string, from, to int) string {
	var b strings.Builder
	for i := from; i < to; i++ {
		fmt.Fprintf(&b, form, i)
	}
	return b.String()
}

// mustPass: the script has nothing that can't be.
func mustPass(t *testing.T, s string) {
	t.Helper()
	if n, at, e := scope.Script(s); at != 0 || e != api.OK {
		t.Errorf("%.200s: %.100s, %d, %d", s, brief(n), at, e)
	}
}

// P12.3: a Break is at fault in no loop of its function, there alone.
func TestBreak(t *testing.T) {
	for _, s := range []string{
		"while a do break end", "for i=1,2 do break end", "while a do break break b=1 end",
		"while a do if a then break else break end do break end end",
		"for i=1,2 do while a do end break end", "while a do while a do break end break end",
		"f(function() while a do break end end)", "while a do f(function() for i=1,2 do break end end) break end",
		"while function() while a do break end end do break end",
	} {
		mustPass(t, s)
	}
	for _, s := range []string{
		"^break", "a=1 ^break break", "if a then ^break end", "if a then else ^break end", "do do ^break end end",
		"while a do end ^break", "for i=1,2 do end ^break", "f(function() ^break end)", "return function(a) ^break end",
		"while a do f(function() ^break end) end", "for i=1,2 do local function f() if a then ^break end end break end",
		"while function() ^break end do end", "for i=function() ^break end,2 do end", "for i=1,2,function() ^break end do break end",
		"while a do while function() ^break end do end end", "while a do break end ^break",
		"while a do f(function() while a do end ^break end) end", "while a do for i=1,2 do end break end do ^break end",
	} {
		mustFail(t, s, api.ErrState)
	}
}

// P12.3: a function has 200 variables at once, and not one more: Locals, Fors and Params.
func TestManyVariables(t *testing.T) {
	all := some("local v%d ", 0, 200)
	most := some("local v%d ", 0, 199)
	mustPass(t, all)
	mustPass(t, all+"f(function() "+all+"end)")
	mustPass(t, most+"do local a end do local b end for i=1,2 do end local c")
	mustPass(t, strings.Repeat("do "+all+"end ", 3)+all)
	mustPass(t, some("do local v%d ", 0, 90)+strings.Repeat("local w ", 110)+strings.Repeat("end ", 90)+all)
	mustPass(t, some("for v%d=1,2 do ", 0, 90)+strings.Repeat("local w ", 110)+strings.Repeat("end ", 90)+all)
	mustPass(t, "f(function("+some("v%d,", 0, 29)+"v29) "+some("local v%d ", 30, 200)+"end)")
	mustPass(t, most+"local function f() "+all+"end")
	for _, s := range []string{
		all + "^local a", all + "^local a=1", all + "^local v0", strings.Repeat("local a ", 200) + "^local a",
		all + "do ^local a end", all + "if a then else ^local a end", all + "while a do ^local a end",
		all + "^for i=1,2 do end", most + "for i=1,2 do ^local a end", most + "for i=1,2 do ^for i=1,2 do end end",
		all + "^local function f() end", most + "local function f() end ^local a",
		all + "f(function() " + all + "^local a end)", all + "f(function() " + all + "end) ^local a",
		most + "do local a end local b do ^local c end",
		some("do local v%d ", 0, 90) + strings.Repeat("local w ", 110) + "^local w " + strings.Repeat("end ", 90),
		some("for v%d=1,2 do ", 0, 90) + strings.Repeat("local w ", 110) + "^local w " + strings.Repeat("end ", 90),
		"f(function(" + some("v%d,", 0, 29) + "v29) " + some("local v%d ", 30, 200) + "^local a end)",
	} {
		mustFail(t, s, api.ErrLong)
	}
}

// params is a script's tree: a function with so many parameters, at 1000, 1001, ..
func params(count int, inside ...api.Node) api.Node {
	f := api.Node{K: api.FuncExp, At: 10}
	for i := range count {
		f.L = append(f.L, api.Node{K: api.Param, At: 1000 + i, S: fmt.Sprint("p", i%7)})
	}
	f.L = append(f.L, api.Node{K: api.Block, At: 20, L: inside})
	return api.Node{K: api.Block, L: []api.Node{{K: api.Return, L: []api.Node{f}}}}
}

// P12.3, P12.7: parameters, of which no script has more than 30, but a tree may.
func TestManyParameters(t *testing.T) {
	for _, count := range []int{0, 1, 30, 31, 199, 200} {
		tree := params(count)
		mustFind(t, tree)
		n, at, e := scope.Find(tree)
		if e != api.OK || at != 0 || n.L[0].L[0].A != count {
			t.Fatalf("%d parameters: %d, %d", count, at, e)
		}
		for i, p := range n.L[0].L[0].L[:count] {
			if p.A != i || p.B != 0 {
				t.Errorf("parameter %d: %v", i, p)
			}
		}
	}
	for _, count := range []int{201, 202, 1000} {
		mustFind(t, params(count))
		if n, at, e := scope.Find(params(count)); e != api.ErrLong || at != 1200 || !alike(n, api.Node{}) {
			t.Errorf("%d parameters: %d, %d", count, at, e)
		}
	}
	local := api.Node{K: api.Local, At: 77, S: "a"}
	if _, at, e := scope.Find(params(199, local)); e != api.OK || at != 0 {
		t.Error(at, e)
	}
	if _, at, e := scope.Find(params(200, local)); e != api.ErrLong || at != 77 {
		t.Error(at, e)
	}
}

// P12.3: a function has 60 ups, and not one more, whoever names them.
func TestManyUps(t *testing.T) {
	all := some("local v%d ", 0, 100)
	mustPass(t, all+"f(function() "+some("v%d=1 ", 0, 60)+some("v%d=1 ", 0, 60)+"g=1 end)")
	mustPass(t, all+"f(function() "+some("v%d=1 ", 0, 60)+"end,function() "+some("v%d=1 ", 40, 100)+"end)"+some("v%d=1 ", 0, 100))
	mustPass(t, all+"f(function() "+some("v%d=1 ", 0, 60)+some("local w%d ", 0, 100)+"f(function() "+some("w%d=1 ", 0, 60)+"end) end)")
	mustPass(t, all+"f(function() "+some("v%d=1 ", 0, 60)+some("local w%d ", 0, 100)+"f(function() "+some("w%d=1 ", 0, 50)+some("v%d=1 ", 20, 30)+"end) end)")
	mustPass(t, "f(function(p) "+all+"f(function() "+some("v%d=1 ", 0, 59)+"p=1 end) end)")
	for _, s := range []string{
		all + "f(function() " + some("v%d=1 ", 0, 60) + "^v60=1 end)",
		all + "f(function() " + some("v%d=1 ", 0, 60) + "v0=1 g=1 x=^v77 end)",
		all + "f(function() " + some("v%d=1 ", 0, 60) + "f(function() v0=1 ^v60=1 end) end)",
		all + "f(function() f(function() " + some("v%d=1 ", 0, 60) + "^v60=1 end) end)",
		all + "f(function() f(function() " + some("v%d=1 ", 0, 30) + "end) f(function() " + some("v%d=1 ", 20, 60) + "^v60=1 end) end)",
		all + "f(function() f(function() " + some("v%d=1 ", 0, 60) + "end) ^v60=1 end)",
		all + "f(function() " + some("v%d=1 ", 0, 60) + some("local w%d ", 0, 100) + "f(function() " + some("w%d=1 ", 0, 60) + "^v0=1 end) end)",
		all + "f(function() " + some("local w%d ", 0, 100) + "f(function() " + some("w%d=1 ", 0, 60) + "^v0=1 end) end)",
		all + "f(function() " + some("v%d=1 ", 0, 60) + "local v60=^v60 end)",
		"f(function(p) " + all + "f(function() " + some("v%d=1 ", 0, 60) + "f(^p) end) end)",
		all + "local function g() " + some("v%d=1 ", 0, 60) + "^g() end",
	} {
		mustFail(t, s, api.ErrLong)
	}
	// A variable of its own is no up, whatever its name is.
	mustPass(t, all+"f(function() "+some("v%d=1 ", 0, 60)+"local v60 v60=1 f(function() v60=1 end) end)")
}

// P12.3: of two faults the first is told, as the tree is gone through: a Local counts from behind its value on, a local function's from ahead of it, a For from its block on.
func TestFirstFault(t *testing.T) {
	all := some("local v%d ", 0, 200)
	ups := some("local v%d ", 0, 61)
	use := some("v%d=1 ", 0, 60)
	mustFail(t, "^break "+all+"local a", api.ErrState)
	mustFail(t, all+"^local a break", api.ErrLong)
	mustFail(t, all+"f(function() ^break end) local a", api.ErrState)
	mustFail(t, ups+"f(function() "+use+"^v60=1 break end) break", api.ErrLong)
	mustFail(t, ups+"f(function() "+use+"^break v60=1 end)", api.ErrState)
	mustFail(t, ups+"f(function() "+use+all+"^local a=1 v60=1 end)", api.ErrLong)
	mustFail(t, ups+"f(function() "+use+some("local w%d ", 0, 200)+"^v60=1 local a end)", api.ErrLong)

	mustFail(t, all+"local a=function() ^break end", api.ErrState)
	mustFail(t, all+"^local function a() break end", api.ErrLong)
	mustFail(t, all+"for i=function() ^break end,2 do end", api.ErrState)
	mustFail(t, all+"for i=1,2,function() ^break end do end", api.ErrState)
	mustFail(t, all+"^for i=1,2 do f(function() break end) end", api.ErrLong)
	mustFail(t, ups+"f(function() "+use+some("local w%d ", 0, 200)+"local a=^v60 end)", api.ErrLong)
	mustFail(t, all+"f(function() "+all+"local a=function() ^break end end)", api.ErrState)
}
