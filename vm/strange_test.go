package vm_test

import (
	"math"
	"math/rand"
	"strings"
	"testing"

	"minstrel/api"
	"minstrel/heap"
	"minstrel/value"
	"minstrel/vm"
)

// strange is a world whose heap was made elsewhere: its global variables are values whose objects are none, or others, and objects that no run makes.
func strange(t *testing.T) *vm.World {
	t.Helper()
	w := fresh(t)
	runScript(t, w, "local up = 5 t = {1} f = function() return up end c = create(type) d = create(type)", 100)
	h := w.Heap()
	get := func(name string) api.Value { return h.Get(1, value.Text(name)) }
	set := func(name string, v api.Value) { h.Set(1, value.Text(name), v) }
	for name, of := range map[string]api.Value{"table": get("t"), "func": get("f"), "co": get("c"), "none": {O: 9999}, "zero": {O: 0}, "below": {O: -5}, "least": {O: math.MinInt}} {
		for kind, k := range map[string]int{"T": api.Table, "F": api.Func, "C": api.Co, "L": api.Lib} {
			set(kind+name, api.Value{K: k, O: of.O})
		}
	}
	set("Lbeyond", api.Value{K: api.Lib, O: api.LibCount})
	made := func(name string, kind, a, b int, slots ...api.Value) {
		o, _ := h.Make(kind, a, b, len(slots))
		for i, v := range slots {
			h.SetSlot(o, i, v)
		}
		set(name, api.Value{K: kind, O: o})
	}
	box := h.Slot(get("f").O, 0)
	made("Fscript", api.Func, 2, 0, box) // the scripts are 0 and, while it runs, 1
	made("Fscriptbelow", api.Func, -1, 1, box)
	made("Ffunction", api.Func, 0, 2, box)
	made("Ffunctionbelow", api.Func, 0, -1, box)
	made("Fgreat", api.Func, math.MaxInt, math.MaxInt)
	made("Fwhole", api.Func, 0, 0)
	made("Fnoslot", api.Func, 0, 1)
	made("Fnobox", api.Func, 0, 1, num(5))
	made("Fboxless", api.Func, 0, 1, api.Value{K: api.Box, O: 9999})
	made("Fboxtable", api.Func, 0, 1, api.Value{K: api.Box, O: get("t").O})
	made("Fself", api.Func, 0, 1, api.Value{K: api.Box, O: get("f").O})
	made("Fmore", api.Func, 0, 1, box, box, num(1))
	made("Cnoslot", api.Co, api.Suspended, 0)
	made("Cslot", api.Co, api.Suspended, 0, num(5))
	made("Crunning", api.Co, api.Running, 0, get("f"))
	made("Cnormal", api.Co, api.Normal, 0, get("f"))
	made("Cdead", api.Co, api.Dead, 0, get("f"))
	made("Codd", api.Co, 4, 0, get("f"))
	made("Cbelow", api.Co, -1, 0, get("f"))
	return w
}

// P17.3, P17.4, P17.6, P17.7: values whose objects are none, or others: each is an error of the script, and nothing more. (A Table that is none has no keys.)
func TestStrangeHeap(t *testing.T) {
	for s, want := range map[string]string{
		"Tnone[1]": "nil", "Tfunc.x": "nil", "#Tnone": "0", "#Tco": "0", "next(Tnone)": "!key", "next(Tbelow)": "!key", "getmeta(Tnone)": "nil", "getmeta(Tco)": "nil", "setmeta(Tnone, {})": "!index", "setmeta({}, Tnone)": "!index", "setmeta({}, Tfunc)": "!index", "type(Tleast)": "table",
		"Fnone()": "!call", "Ftable()": "!call", "Fboxtable()": "!box", "Fco()": "!call", "Fzero()": "!call", "Fbelow()": "!call", "Fleast()": "!call", "Fscript()": "!call", "Fscriptbelow()": "!call", "Ffunction()": "!call", "Ffunctionbelow()": "!call", "Fgreat()": "!call", "pcall(Fnone)[2]": "call", "resume(create(Fnone))[2]": "call",
		"Fwhole()": "nil", "Fmore()": "5", "Fnoslot()": "!box", "Fnobox()": "!box", "Fboxless()": "!box", "Fself()": "!box",
		"Lbeyond()": "!call", "Lnone()": "!call", "Lbelow()": "!call", "Lleast()": "!call", "Lzero(1)": "number", "resume(create(Lbeyond))[2]": "call",
		"resume(Cnone)": "!resume", "resume(Ctable)": "!resume", "resume(Cfunc)": "!resume", "status(Cnone)": "!resume", "status(Cbelow)": "dead", "status(Codd)": "dead", "status(Crunning)": "running", "status(Cnormal)": "normal", "status(Cdead)": "dead",
		"resume(Crunning)[2]": "resume", "resume(Cnormal)[2]": "resume", "resume(Cdead)[2]": "resume", "resume(Codd)[2]": "resume", "resume(Cbelow)[2]": "resume", "resume(Cnoslot)[2]": "call", "resume(Cslot)[2]": "call", "status(Cnoslot)": "suspended",
	} {
		if got := shown(runScript(t, strange(t), "return "+s, 100)); got != want {
			t.Errorf("%s: %s, not %s", s, got, want)
		}
	}
	for _, s := range []string{"Tnone[1] = 1", "Tfunc.x = 1", "Tleast[1] = nil"} {
		if got := shown(runScript(t, strange(t), s, 100)); got != "!index" {
			t.Errorf("%s: %s, not the error index", s, got)
		}
	}
}

// P17.8: whatever lies in the heap, each built-in function and each sign ends without a panic.
func TestStrangeValues(t *testing.T) {
	w := strange(t)
	table, _ := w.Heap().Object(1)
	var names []string
	for _, k := range table.Keys {
		names = append(names, k.S)
	}
	r := rand.New(rand.NewSource(22))
	name := func() string { return names[r.Intn(len(names))] }
	for range 3000 {
		s := "local a = " + name() + " local b = " + name() + " local c = " + name() + " "
		switch r.Intn(3) {
		case 0:
			s += "return " + libNames[r.Intn(len(libNames))] + "(a, b, c)"
		case 1:
			s += "a[b] = c return a[b]"
		case 2:
			s += "return a" + []string{"(b, c)", "[b]", " == b", " < b", " .. b", " + b"}[r.Intn(6)]
		}
		o := runScript(t, w, s, 1000)
		if o.End == api.Failed && o.V.K == api.Text && !strings.Contains(" index key arith len concat long compare for call resume yield text box ", " "+o.V.S+" ") && !strings.Contains(s, "error") && !strings.Contains(s, "Lzero") {
			t.Errorf("%s: %v", s, o)
		}
	}
}

// P17.8: functions by chance in a heap that scripts spoil, and with no fuel, and with no room at all.
func TestFunctionsWithoutFuel(t *testing.T) {
	r := rand.New(rand.NewSource(23))
	for i := range 500 {
		w := strange(t)
		p := orderMaker{r}.function(nil, 2)
		if o := mustRun(t, w, p, 0); o.End == api.NoFuel && o != (api.Outcome{End: api.NoFuel}) {
			t.Errorf("without fuel: %v", o)
		}
		h, _ := heap.New(1)
		globals, _ := h.Table()
		v, e := vm.Make(h, globals, nil, uint64(i))
		if e != api.OK {
			t.Fatalf("Make: %d", e)
		}
		if o := mustRun(t, v, p, 500); o.Fuel < 0 || h.Used() > 1 {
			t.Errorf("without room: %v, Used %d", o, h.Used())
		}
	}
}

// P17.2: as many registers, orders and constants as there may be, and functions as deep.
func TestGreatFunctions(t *testing.T) {
	p := api.Proto{Regs: api.MaxRegs, Consts: make([]api.Value, api.MaxCode), Code: make([]api.Instr, api.MaxCode)}
	p.Consts[api.MaxCode-1] = num(9)
	for i := range p.Code {
		p.Code[i] = api.Instr{Op: api.OpConst, A: i % api.MaxRegs, B: api.MaxCode - 1}
	}
	p.Code[api.MaxCode-1] = api.Instr{Op: api.OpReturn, A: api.MaxRegs - 1}
	if o := mustRun(t, fresh(t), p, api.MaxFuel); o != (api.Outcome{V: num(9), Fuel: api.MaxFuel - api.MaxCode}) {
		t.Errorf("a great function: %v", o)
	}
	// 100 functions within one another, each of which answers what the next one does.
	in := api.Proto{Regs: 1, Consts: []api.Value{num(4)}, Code: []api.Instr{{Op: api.OpConst}, {Op: api.OpReturn}}}
	for range 100 {
		in = api.Proto{Regs: 1, Code: []api.Instr{{Op: api.OpClosure}, {Op: api.OpCall}, {Op: api.OpReturn}}, Protos: []api.Proto{in}}
	}
	w := fresh(t)
	if o := mustRun(t, w, in, 1000); o != (api.Outcome{V: num(4), Fuel: 1000 - 302}) {
		t.Errorf("deep functions: %v", o)
	}
	// 4095 functions beside one another, each with the number that Flat gives it.
	wide := api.Proto{Regs: 1, Protos: make([]api.Proto, api.MaxFuncs-1)}
	for i := range wide.Protos {
		wide.Protos[i] = api.Proto{Code: []api.Instr{{Op: api.OpEnd}}}
	}
	wide.Code = []api.Instr{{Op: api.OpClosure, B: api.MaxFuncs - 2}, {Op: api.OpReturn}}
	o := mustRun(t, w, wide, 10)
	if f, _ := w.Heap().Object(o.V.O); f.K != api.Func || f.A != 1 || f.B != api.MaxFuncs-1 {
		t.Errorf("the last of many functions: %v", f)
	}
}
