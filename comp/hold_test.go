package comp_test

import (
	"math/rand"
	"reflect"
	"testing"

	"minstrel/api"
	"minstrel/comp"
	"minstrel/prog"
	"minstrel/scope"
)

// script is a script that was told: its function, and its tree.
type script struct {
	s string
	p api.Proto
	n api.Node
}

// mustTell: a script that scope takes becomes a function that Check takes, with as many functions, parameters and ups; of another one scope's place and error are told.
func mustTell(t *testing.T, s string) (script, bool) {
	t.Helper()
	p, at, e := comp.Script(s)
	n, wantAt, want := scope.Script(s)
	if at != wantAt || e != want {
		t.Fatalf("%.2000q: %d, %d; want %d, %d", s, at, e, wantAt, want)
	}
	if e != api.OK {
		if !reflect.DeepEqual(p, api.Proto{}) {
			t.Fatalf("%.2000q: beside the error %d: %v", s, e, p)
		}
		return script{}, false
	}
	if e := prog.Check(p); e != api.OK {
		t.Fatalf("%.2000q: Check tells %d", s, e)
	}
	mustFunctions(t, script{s, p, n})
	return script{s, p, n}, true
}

// mustFunctions: Flat's functions are the script and its FuncExps.
func mustFunctions(t *testing.T, x script) {
	t.Helper()
	got, want := prog.Flat(x.p), append([]api.Node{{}}, functionsOf(x.n)...)
	if len(got) != len(want) {
		t.Fatalf("%.2000q: %d functions; want %d", x.s, len(got), len(want))
	}
	for i, f := range want {
		if params := max(len(f.L)-1, 0); got[i].Params != params || len(got[i].Ups) != len(f.Ups) {
			t.Fatalf("%.2000q: function %d: %d parameters, %d ups; want %d, %d", x.s, i, got[i].Params, len(got[i].Ups), params, len(f.Ups))
		}
	}
}

// mustRun: run by its orders, a script does what its tree says.
func mustRun(t *testing.T, x script, fuel, room int) outcome {
	t.Helper()
	got, want := runOrders(x.p, fuel, room), runTree(x.n, fuel, room)
	if !sameOutcome(got, want) {
		t.Fatalf("%.4000s\nwith fuel %d, room %d: %s\nwant %s\n%.4000s", x.s, fuel, room, told(got), told(want), prog.Print(x.p))
	}
	return want
}

// roomy is more than the scripts of these tests use; atFirst the cells that a bench uses.
const (
	roomy   = 1 << 16
	atFirst = 4
)

// mustDo: a script is told, and does what its tree says, to its end, and with less fuel, and less room, some times each.
func mustDo(t *testing.T, r *rand.Rand, s string, fuel, times int) outcome {
	t.Helper()
	x, ok := mustTell(t, s)
	if !ok {
		return outcome{}
	}
	out := mustRun(t, x, fuel, roomy)
	for range times {
		if paid := fuel - out.Fuel; paid > 0 {
			mustRun(t, x, r.Intn(paid), roomy)
		}
		if more := used(out) - atFirst; more > 0 {
			mustRun(t, x, fuel, atFirst+r.Intn(more))
		}
	}
	return out
}

// used is how many cells the objects have.
func used(out outcome) int {
	cells := 0
	for _, o := range out.objects {
		cells += 1 + len(o.Keys) + len(o.Slots)
	}
	return cells
}
