package comp_test

import (
	"math"
	"reflect"
	"strconv"
	"strings"
	"testing"

	"minstrel/api"
	"minstrel/heap"
	"minstrel/value"
)

// bench is what a script runs on, whether by its orders or by its tree: objects, fuel, and what was noted. What values do with one another is chapter 17's, not the compiler's, so both share it.
type bench struct {
	heap    *heap.Heap
	globals int
	fuel    int
	calls   int
	notes   []string
	run     func(object int, arguments []api.Value) api.Value // how a function runs
}

// raised is an error of a script, ended the end of a run.
type raised struct{ v api.Value }
type ended struct{ how int }

// The built-in functions of the tests: error and pcall, and one that notes its arguments, what is left of the fuel, and the cells in use.
const libNote = api.LibCount + 1

func newBench(fuel, room int) *bench {
	h, _ := heap.New(room)
	w := &bench{heap: h, fuel: fuel}
	w.globals, _ = h.Table()
	for _, lib := range []struct {
		name string
		o    int
	}{{"error", api.LibError}, {"pcall", api.LibPcall}, {"note", libNote}} {
		h.Set(w.globals, value.Text(lib.name), api.Value{K: api.Lib, O: lib.o})
	}
	return w
}

// outcome is how a run ended, and all that it left.
type outcome struct {
	api.Outcome
	notes   []string
	objects []api.Object
}

// whole runs a whole script, whose object is made for free: it is none of the heap's.
func (w *bench) whole(script func() api.Value) (out outcome) {
	defer func() {
		switch why := recover().(type) {
		case nil:
		case raised:
			out.End, out.V = api.Failed, why.v
		case ended:
			out.End, out.V = why.how, api.Value{}
		default:
			panic(why)
		}
		out.Fuel, out.notes = w.fuel, w.notes
		for o := 1; o <= w.heap.Len(); o++ {
			object, _ := w.heap.Object(o)
			out.objects = append(out.objects, object)
		}
	}()
	w.calls = 1
	out.V = script()
	return out
}

func (w *bench) pay(cost int) {
	if cost > w.fuel {
		panic(ended{api.NoFuel})
	}
	w.fuel -= cost
}

func (w *bench) raise(text string) api.Value { panic(raised{value.Text(text)}) }

func (w *bench) made(o int, e api.Errno) int {
	if e != api.OK {
		panic(ended{api.NoRoom})
	}
	return o
}

func (w *bench) table() api.Value { return api.Value{K: api.Table, O: w.made(w.heap.Table())} }

func (w *bench) box(v api.Value) int {
	o := w.made(w.heap.Make(api.Box, 0, 0, 1))
	w.heap.SetSlot(o, 0, v)
	return o
}

func (w *bench) closure(function, ups int) api.Value {
	return api.Value{K: api.Func, O: w.made(w.heap.Make(api.Func, 0, function, ups))}
}

func (w *bench) index(t, k api.Value) api.Value {
	if t.K != api.Table {
		w.raise("index")
	}
	return w.heap.Look(t.O, k)
}

func (w *bench) setIndex(t, k, v api.Value) {
	if t.K != api.Table {
		w.raise("index")
	}
	switch w.heap.Set(t.O, k, v) {
	case api.ErrArg:
		w.raise("key")
	case api.ErrLong:
		panic(ended{api.NoRoom})
	}
}

func (w *bench) global(name string) api.Value { return w.heap.Get(w.globals, value.Text(name)) }

func (w *bench) setGlobal(name string, v api.Value) {
	w.setIndex(api.Value{K: api.Table, O: w.globals}, value.Text(name), v)
}

func number(f float64) api.Value { return value.Num(api.Num(math.Float64bits(f))) }

func float(v api.Value) float64 { return math.Float64frombits(uint64(v.N)) }

func numbers(l ...api.Value) bool {
	for _, v := range l {
		if v.K != api.Number {
			return false
		}
	}
	return true
}

func (w *bench) unary(sign string, a api.Value) api.Value {
	switch {
	case sign == "not":
		return value.Bool(!value.Truth(a))
	case sign == "-" && a.K == api.Number:
		return number(-float(a))
	case sign == "-":
		return w.raise("arith")
	case a.K == api.Text:
		return number(float64(len(a.S)))
	case a.K == api.Table:
		return number(float64(w.heap.Size(a.O)))
	}
	return w.raise("len")
}

func (w *bench) binary(sign string, a, b api.Value) api.Value {
	switch sign {
	case "==", "~=":
		return value.Bool(value.Same(a, b) == (sign == "=="))
	case "<", "<=", ">", ">=":
		return w.compared(sign, a, b)
	case "..":
		return w.joined(a, b)
	}
	if !numbers(a, b) {
		w.raise("arith")
	}
	x, y := float(a), float(b)
	switch sign {
	case "+":
		return number(x + y)
	case "-":
		return number(x - y)
	case "*":
		return number(x * y)
	case "/":
		return number(x / y)
	}
	return number(math.Mod(math.Mod(x, y)+y, y))
}

func (w *bench) compared(sign string, a, b api.Value) api.Value {
	var less, same bool
	switch {
	case numbers(a, b):
		less, same = float(a) < float(b), float(a) == float(b)
	case a.K == api.Text && b.K == api.Text:
		less, same = a.S < b.S, a.S == b.S
	default:
		w.raise("compare")
	}
	if numbers(a, b) && (math.IsNaN(float(a)) || math.IsNaN(float(b))) {
		return value.Bool(false)
	}
	return value.Bool(map[string]bool{"<": less, "<=": less || same, ">": !less && !same, ">=": !less}[sign])
}

func (w *bench) joined(a, b api.Value) api.Value {
	if a.K != api.Number && a.K != api.Text || b.K != api.Number && b.K != api.Text {
		w.raise("concat")
	}
	s := value.Show(a) + value.Show(b)
	if len(s) > api.MaxText {
		w.raise("long")
	}
	return value.Text(s)
}

// goesOn tells whether a for goes on: what is not above may well be a NaN.
func goesOn(from, to, step api.Value) bool {
	f, t, s := float(from), float(to), float(step)
	return s > 0 && !(f > t) || s < 0 && !(f < t)
}

func (w *bench) call(f api.Value, arguments []api.Value) api.Value {
	switch {
	case f.K == api.Func:
		if w.calls == api.MaxCalls {
			panic(ended{api.NoStack})
		}
		w.calls++
		v := w.run(f.O, arguments)
		w.calls--
		return v
	case f.K == api.Lib:
		return w.lib(f.O, append(arguments, api.Value{}))
	}
	return w.raise("call")
}

// lib calls a built-in function; behind the arguments stands a Nil.
func (w *bench) lib(o int, arguments []api.Value) api.Value {
	switch o {
	case api.LibError:
		panic(raised{arguments[0]})
	case api.LibPcall:
		is, v := w.caught(arguments)
		t := w.table()
		w.setIndex(t, number(1), value.Bool(is))
		w.setIndex(t, number(2), v)
		return t
	}
	var note strings.Builder
	for _, v := range arguments[:len(arguments)-1] {
		note.WriteString(value.Show(v) + " ")
	}
	w.notes = append(w.notes, note.String()+strconv.Itoa(w.fuel)+" "+strconv.Itoa(w.heap.Used()))
	return arguments[0]
}

// caught calls the first argument with the others but the last.
func (w *bench) caught(arguments []api.Value) (is bool, v api.Value) {
	calls := w.calls
	defer func() {
		switch why := recover().(type) {
		case nil:
		case raised:
			is, v, w.calls = false, why.v, calls
		default:
			panic(why)
		}
	}()
	others := arguments[1:]
	return true, w.call(arguments[0], append([]api.Value(nil), others[:max(len(others)-1, 0)]...))
}

// sameOutcome compares, values by their bits (but of NaNs).
func sameOutcome(a, b outcome) bool {
	return a.End == b.End && a.Fuel == b.Fuel && value.Normal(a.V) == value.Normal(b.V) &&
		reflect.DeepEqual(a.notes, b.notes) && reflect.DeepEqual(a.objects, b.objects)
}

// told is an outcome as a text.
func told(o outcome) string {
	return strconv.Itoa(o.End) + " " + value.Show(o.V) + ", fuel " + strconv.Itoa(o.Fuel) + ", objects " + strconv.Itoa(len(o.objects)) + ", notes " + strings.Join(o.notes, "; ")
}

// P14.1: what the bench itself does, since the other tests lean on it.
func TestBench(t *testing.T) {
	w := newBench(10, 100)
	out := w.whole(func() api.Value {
		w.pay(3)
		w.setGlobal("x", w.binary("+", number(1), number(2)))
		return w.global("x")
	})
	if out.End != api.Done || out.Fuel != 7 || out.V != number(3) || len(out.objects) != 1 {
		t.Error(told(out))
	}
	out = w.whole(func() api.Value { return w.binary("<", number(1), value.Text("a")) })
	if out.End != api.Failed || out.V != value.Text("compare") {
		t.Error(told(out))
	}
	out = w.whole(func() api.Value { w.pay(8); return api.Value{} })
	if out.End != api.NoFuel || out.Fuel != 7 {
		t.Error(told(out))
	}
	for sign, want := range map[string]bool{"<": true, "<=": true, ">": false, ">=": false, "==": false, "~=": true} {
		if w.binary(sign, number(1), number(2)) != value.Bool(want) {
			t.Error(sign)
		}
	}
}
