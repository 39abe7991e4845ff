package vm_test

import (
	"math"
	"reflect"
	"testing"

	"minstrel/api"
	"minstrel/heap"
	"minstrel/prog"
	"minstrel/value"
	"minstrel/vm"
)

// refused are functions that prog.Check refuses, for each reason that a function by itself can have.
func refused() map[string]api.Proto {
	end := []api.Instr{{Op: api.OpEnd}}
	return map[string]api.Proto{
		"nothing":           {},
		"no end":            {Regs: 1, Code: []api.Instr{{Op: api.OpClear}}},
		"no order":          {Code: []api.Instr{{Op: 38}, {Op: api.OpEnd}}},
		"no register":       {Code: []api.Instr{{Op: api.OpClear}, {Op: api.OpEnd}}},
		"no constant":       {Regs: 1, Code: []api.Instr{{Op: api.OpConst}, {Op: api.OpEnd}}},
		"a Table constant":  {Consts: []api.Value{{K: api.Table, O: 1}}, Code: end},
		"no place":          {Code: []api.Instr{{Op: api.OpJump, A: 1}}},
		"no function":       {Regs: 1, Code: []api.Instr{{Op: api.OpClosure}, {Op: api.OpEnd}}},
		"arguments":         {Regs: 2, Code: []api.Instr{{Op: api.OpCall, B: 2}, {Op: api.OpEnd}}},
		"ups":               {Regs: 1, Ups: []api.Up{{Own: true}}, Code: end},
		"params":            {Params: 1, Code: end},
		"too many":          {Regs: api.MaxRegs + 1, Code: end},
		"one within":        {Code: end, Protos: []api.Proto{{}}},
		"an up of one":      {Code: end, Protos: []api.Proto{{Ups: []api.Up{{Own: true}}, Code: end}}},
		"too many for all":  {Code: end, Protos: make([]api.Proto, api.MaxFuncs+1)},
		"too many ups":      {Regs: 1, Code: end, Protos: []api.Proto{{Ups: make([]api.Up, api.MaxUps+1), Code: end}}},
		"a text's O":        {Consts: []api.Value{{K: api.Text, O: 1}}, Code: end},
		"a Box constant":    {Consts: []api.Value{{K: api.Box, O: 1}}, Code: end},
		"a NaN of its own":  {Consts: []api.Value{{K: api.Number, N: 0x7ff8000000000001}}, Code: end},
		"registers below 0": {Regs: -1, Code: end},
	}
}

// P17.1: New with limits that heap.New refuses, with too little room for the built-in functions, and with enough.
func TestNew(t *testing.T) {
	for _, limit := range []int{-1, -2, math.MinInt, api.MaxCells + 1, math.MaxInt} {
		if w, e := vm.New(limit, 1); w != nil || e != api.ErrArg {
			t.Errorf("New(%d) = %v, %d, not nil, ErrArg", limit, w, e)
		}
	}
	for limit := range 24 {
		if w, e := vm.New(limit, 1); w != nil || e != api.ErrLong {
			t.Errorf("New(%d) = %v, %d, not nil, ErrLong", limit, w, e)
		}
	}
	for _, limit := range []int{24, 25, 1000, api.MaxCells - 1, api.MaxCells} {
		for _, seed := range []uint64{0, 1, math.MaxUint64} {
			w, e := vm.New(limit, seed)
			if w == nil || e != api.OK {
				t.Errorf("New(%d) = %v, %d", limit, w, e)
				continue
			}
			mustBeNew(t, w, seed)
		}
	}
}

// mustBeNew: the table 1 has the built-in functions in their order, and there is nothing else.
func mustBeNew(t *testing.T, w *vm.World, seed uint64) {
	t.Helper()
	want := api.Object{K: api.Table}
	for i, name := range libNames {
		want.Keys = append(want.Keys, value.Text(name))
		want.Vals = append(want.Vals, api.Value{K: api.Lib, O: i})
	}
	if got, _ := w.Heap().Object(1); !reflect.DeepEqual(got, want) {
		t.Errorf("the table 1 is %v, not %v", got, want)
	}
	if w.Globals() != 1 || w.Heap().Len() != 1 || w.Heap().Used() != 24 || w.Seed() != seed || len(w.Progs()) != 0 {
		t.Errorf("Globals %d, Len %d, Used %d, Seed %d, Progs %v", w.Globals(), w.Heap().Len(), w.Heap().Used(), w.Seed(), w.Progs())
	}
}

// P17.1: a world's heap has the limit that New was given.
func TestNewLimit(t *testing.T) {
	for _, more := range []int{0, 1, 5} {
		w, _ := vm.New(24+more, 1)
		for range more {
			if _, e := w.Heap().Table(); e != api.OK {
				t.Errorf("with %d cells more: %d", more, e)
			}
		}
		if _, e := w.Heap().Table(); e != api.ErrLong {
			t.Errorf("beyond %d cells more: %d", more, e)
		}
	}
}

// P17.1: LibName of every number, and of numbers on both sides.
func TestLibName(t *testing.T) {
	if len(libNames) != api.LibCount {
		t.Fatalf("%d names", len(libNames))
	}
	for i, want := range libNames {
		if got := vm.LibName(i); got != want {
			t.Errorf("LibName(%d) = %q, not %q", i, got, want)
		}
	}
	for _, n := range []int{-1, -2, -23, 23, 24, 255, 256, 1 << 32, math.MinInt, math.MaxInt} {
		if got := vm.LibName(n); got != "" {
			t.Errorf("LibName(%d) = %q", n, got)
		}
	}
	for name, n := range map[string]int{"type": api.LibType, "pcall": api.LibPcall, "create": api.LibCreate, "status": api.LibStatus, "sub": api.LibSub, "find": api.LibFind, "random": api.LibRandom, "reverse": api.LibReverse} {
		if vm.LibName(n) != name {
			t.Errorf("LibName(%d) = %q, not %q", n, vm.LibName(n), name)
		}
	}
}

// P17.1: Make with a nil heap, with objects that are no table, with functions that Check refuses.
func TestMakeRefuses(t *testing.T) {
	h, _ := heap.New(100)
	table, _ := h.Table()
	f, _ := h.Make(api.Func, 0, 0, 1)
	co, _ := h.Make(api.Co, 0, 0, 1)
	box, _ := h.Make(api.Box, 0, 0, 1)
	empty, _ := heap.New(0)
	refuse := func(why string, h *heap.Heap, globals int, progs ...api.Proto) {
		t.Helper()
		if w, e := vm.Make(h, globals, progs, 1); w != nil || e != api.ErrArg {
			t.Errorf("Make with %s = %v, %d, not nil, ErrArg", why, w, e)
		}
	}
	good := compiled(t, "return function() end")
	refuse("a nil heap", nil, 1)
	refuse("a nil heap", nil, 1, good)
	for _, o := range []int{0, -1, f, co, box, box + 1, math.MinInt, math.MaxInt} {
		refuse("no table", h, o)
	}
	refuse("no table", empty, 1)
	for why, bad := range refused() {
		if prog.Check(bad) == api.OK {
			t.Fatalf("%s: Check takes it", why)
		}
		refuse(why, h, table, bad)
		refuse(why+" behind", h, table, good, bad)
		refuse(why+" ahead", h, table, bad, good)
	}
	if h.Len() != 4 || h.Used() != 7 {
		t.Errorf("Make changed the heap: Len %d, Used %d", h.Len(), h.Used())
	}
}

// P17.1: Make of what there is: any table of the heap, which is no copy, and copies of the functions.
func TestMake(t *testing.T) {
	h, _ := heap.New(100)
	h.Table()
	globals, _ := h.Table()
	h.Set(globals, value.Text("x"), num(5))
	progs := []api.Proto{compiled(t, "return function() return 1 end"), compiled(t, "return x")}
	w, e := vm.Make(h, globals, progs, math.MaxUint64)
	if e != api.OK {
		t.Fatalf("Make: %d", e)
	}
	if w.Heap() != h || w.Globals() != globals || w.Seed() != math.MaxUint64 || !sameProgs(w.Progs(), progs) {
		t.Errorf("Globals %d, Seed %d, Progs %v", w.Globals(), w.Seed(), w.Progs())
	}
	if o := runScript(t, w, "y = x return x", 10); o.V != num(5) {
		t.Errorf("x = %v", o)
	}
	if h.Get(globals, value.Text("y")) != num(5) || h.Used() != 4 {
		t.Errorf("the heap was not changed: Used %d", h.Used())
	}
	if o := runScript(t, w, "return type(1)", 10); o.End != api.Failed || o.V != value.Text("call") {
		t.Errorf("there is no type: %v", o)
	}
	if w, e := vm.Make(h, globals, nil, 0); e != api.OK || len(w.Progs()) != 0 || w.Seed() != 0 {
		t.Errorf("Make without functions: %d", e)
	}
}

func sameProgs(a, b []api.Proto) bool {
	if len(a) != len(b) {
		return false
	}
	for i := range a {
		if !reflect.DeepEqual(prog.ToCell(a[i]), prog.ToCell(b[i])) {
			return false
		}
	}
	return true
}

// spoil changes all that a function's lists hold, spare room included.
func spoil(p api.Proto) {
	for i := range p.Ups[:cap(p.Ups)] {
		p.Ups[:cap(p.Ups)][i] = api.Up{At: 77}
	}
	for i := range p.Code[:cap(p.Code)] {
		p.Code[:cap(p.Code)][i] = api.Instr{Op: api.OpEnd}
	}
	for i := range p.Consts[:cap(p.Consts)] {
		p.Consts[:cap(p.Consts)][i] = value.Text("spoilt")
	}
	for i, in := range p.Protos {
		spoil(in)
		p.Protos[i] = api.Proto{}
	}
}

// P17.1: what is handed to Make and Run is not kept, and what Progs tells is a copy, each time another one: functions go on as they were, however much of it is changed.
func TestProgsCopied(t *testing.T) {
	const first = "local a = 1 f = function(b) local c = a + b return function() return c + a end end"
	for _, handed := range []string{"Run", "Make"} {
		p := compiled(t, first)
		w := fresh(t)
		if handed == "Run" {
			mustRun(t, w, p, 100)
		} else {
			runScript(t, w, first, 100)
			w, _ = vm.Make(w.Heap(), 1, []api.Proto{p}, 1)
		}
		spoil(p)
		for _, told := range w.Progs() {
			spoil(told)
		}
		one, two := w.Progs(), w.Progs()
		if !sameProgs(one, []api.Proto{compiled(t, first)}) {
			t.Errorf("%s: Progs are %v", handed, one)
		}
		spoil(one[0])
		if !sameProgs(two, []api.Proto{compiled(t, first)}) {
			t.Errorf("%s: two answers of Progs share lists", handed)
		}
		if o := runScript(t, w, "return f(5)()", 100); shown(o) != "7" {
			t.Errorf("%s: f(5)() = %s", handed, shown(o))
		}
	}
}

// P17.1: what is changed in the heap that Heap tells is seen by scripts, and the other way.
func TestHeapIsNoCopy(t *testing.T) {
	w := fresh(t)
	if w.Heap() != w.Heap() {
		t.Error("Heap tells two heaps")
	}
	w.Heap().Set(w.Globals(), value.Text("x"), value.Text("set"))
	if o := runScript(t, w, "y = x .. 1 return x", 100); o.V != value.Text("set") {
		t.Errorf("x = %v", o)
	}
	if got := w.Heap().Get(w.Globals(), value.Text("y")); got != value.Text("set1") {
		t.Errorf("y = %v", got)
	}
}

// P17.1: two worlds know nothing of one another.
func TestWorldsApart(t *testing.T) {
	a, b := fresh(t), fresh(t)
	runScript(t, a, "x = 1 type = 5 random() local c = create(function() end) resume(c)", 100)
	mustBeNew(t, b, 7)
	if o := runScript(t, b, "return type(x)", 100); shown(o) != "nil" {
		t.Errorf("type(x) = %s", shown(o))
	}
}
