package vm_test

import (
	"iter"
	"math"

	"minstrel/api"
	"minstrel/heap"
	"minstrel/rand"
	"minstrel/text"
	"minstrel/value"
)

// bench is a world of the tests' own, by the chapter's words: functions are called by calls of Go, threads are coroutines of Go, numbers are floats. Whether a function runs by its orders or by its tree is another matter.
type bench struct {
	heap    *heap.Heap
	globals int
	seed    uint64
	fuel    int
	now     *coroutine
	resumed map[int]*coroutine // in this run
	run     func(object int, args []api.Value) api.Value
}

// coroutine is a thread, or, with the object 0, what no thread runs.
type coroutine struct {
	object int
	calls  int // functions of its own that are being called
	by     *coroutine
	handed api.Value // what it is resumed with
	next   func() (message, bool)
	stop   func()
	yield  func(message) bool
}

// message is what a resume is told of the thread that ran.
type message struct {
	state  int // the thread's
	failed bool
	v      api.Value
}

// thrown is an error of a script, over the end of a run, gone what a thread that is given up is told.
type thrown struct{ v api.Value }
type over struct{ how int }
type gone struct{}

var libNames = []string{"type", "tostring", "tonumber", "error", "pcall", "next", "setmeta", "getmeta", "create", "resume", "yield", "status", "floor", "sqrt", "abs", "sub", "byte", "char", "rep", "find", "random", "upper", "reverse"}

func newBench(room int, seed uint64) *bench {
	h, _ := heap.New(room)
	w := &bench{heap: h, seed: seed}
	w.globals, _ = h.Table()
	for i, name := range libNames {
		h.Set(w.globals, value.Text(name), api.Value{K: api.Lib, O: i})
	}
	return w
}

// whole runs a whole script, whose function is no object.
func (w *bench) whole(fuel int, script func() api.Value) (out api.Outcome) {
	w.fuel, w.now, w.resumed = fuel, &coroutine{calls: 1}, map[int]*coroutine{}
	defer func() {
		switch why := recover().(type) {
		case nil:
		case thrown:
			out.End, out.V = api.Failed, why.v
		case over:
			out.End, out.V = why.how, api.Value{}
		default:
			panic(why)
		}
		out.Fuel = w.fuel
		for o, c := range w.resumed {
			w.heap.Mark(o, api.Dead)
			giveUp(c)
		}
	}()
	out.V = script()
	return out
}

// giveUp lets go of a coroutine.
func giveUp(c *coroutine) {
	defer func() {
		switch why := recover().(type) {
		case nil, gone:
		default:
			panic(why)
		}
	}()
	c.stop()
}

func (w *bench) pay(cost int) {
	if w.fuel < cost {
		panic(over{api.NoFuel})
	}
	w.fuel -= cost
}

func (w *bench) throw(text string) api.Value { panic(thrown{value.Text(text)}) }

func (w *bench) need(o int, e api.Errno) int {
	if e != api.OK {
		panic(over{api.NoRoom})
	}
	return o
}

func (w *bench) table() api.Value { return api.Value{K: api.Table, O: w.need(w.heap.Table())} }

func (w *bench) box(v api.Value) int {
	o := w.need(w.heap.Make(api.Box, 0, 0, 1))
	w.heap.SetSlot(o, 0, v)
	return o
}

func (w *bench) index(t, k api.Value) api.Value {
	if t.K != api.Table {
		w.throw("index")
	}
	return w.heap.Look(t.O, k)
}

func (w *bench) setIndex(t, k, v api.Value) {
	if t.K != api.Table {
		w.throw("index")
	}
	if _, is := value.Key(k); !is {
		w.throw("key")
	}
	w.need(0, w.heap.Set(t.O, k, v))
}

func (w *bench) global(name api.Value) api.Value { return w.heap.Get(w.globals, name) }

func (w *bench) setGlobal(name, v api.Value) {
	w.setIndex(api.Value{K: api.Table, O: w.globals}, name, v)
}

// num is a number, whose NaN is always the one.
func num(f float64) api.Value {
	if f != f {
		return value.Num(0x7ff8000000000000)
	}
	return value.Num(api.Num(math.Float64bits(f)))
}

func float(v api.Value) float64 { return math.Float64frombits(uint64(v.N)) }

func all(kind int, l ...api.Value) bool {
	for _, v := range l {
		if v.K != kind {
			return false
		}
	}
	return true
}

func (w *bench) unary(sign string, a api.Value) api.Value {
	switch {
	case sign == "not":
		return value.Bool(!value.Truth(a))
	case sign == "-" && a.K == api.Number:
		return num(-float(a))
	case sign == "-":
		return w.throw("arith")
	case a.K == api.Text:
		return num(float64(len(a.S)))
	case a.K == api.Table:
		return num(float64(w.heap.Size(a.O)))
	}
	return w.throw("len")
}

func (w *bench) binary(sign string, a, b api.Value) api.Value {
	switch sign {
	case "==":
		return value.Bool(value.Same(a, b))
	case "~=":
		return value.Bool(!value.Same(a, b))
	case "<", "<=", ">", ">=":
		return w.compared(sign, a, b)
	case "..":
		return w.joined(a, b)
	}
	if !all(api.Number, a, b) {
		w.throw("arith")
	}
	x, y := float(a), float(b)
	switch sign {
	case "+":
		return num(x + y)
	case "-":
		return num(x - y)
	case "*":
		return num(x * y)
	case "/":
		return num(x / y)
	}
	return num(rest(x, y))
}

// rest has the sign of y.
func rest(x, y float64) float64 {
	r := math.Mod(x, y)
	switch {
	case r == 0:
		return math.Copysign(0, y)
	case math.IsNaN(r) || math.Signbit(r) == math.Signbit(y):
		return r
	}
	return r + y
}

func (w *bench) compared(sign string, a, b api.Value) api.Value {
	order := 2 // none of the three
	switch {
	case all(api.Number, a, b):
		for i, is := range []bool{float(a) < float(b), float(a) == float(b), float(a) > float(b)} {
			if is {
				order = i - 1
			}
		}
	case all(api.Text, a, b):
		order = 0
		if a.S < b.S {
			order = -1
		} else if a.S > b.S {
			order = 1
		}
	default:
		w.throw("compare")
	}
	switch sign {
	case "<":
		return value.Bool(order == -1)
	case "<=":
		return value.Bool(order == -1 || order == 0)
	case ">":
		return value.Bool(order == 1)
	}
	return value.Bool(order == 1 || order == 0)
}

func (w *bench) joined(a, b api.Value) api.Value {
	for _, v := range []api.Value{a, b} {
		if v.K != api.Number && v.K != api.Text {
			w.throw("concat")
		}
	}
	s := value.Show(a) + value.Show(b)
	if len(s) > 16384 {
		w.throw("long")
	}
	return value.Text(s)
}

// goesOn tells whether a for goes on: what is not above may well be a NaN.
func goesOn(from, to, step api.Value) bool {
	f, t, s := float(from), float(to), float(step)
	return s > 0 && !(f > t) || s < 0 && !(f < t)
}

// called is how many functions are being called.
func (w *bench) called() int {
	n := 0
	for c := w.now; c != nil; c = c.by {
		n += c.calls
	}
	return n
}

func (w *bench) call(f api.Value, args []api.Value) api.Value {
	args = append([]api.Value(nil), args...)
	switch {
	case f.K == api.Func:
		if o, is := w.heap.Object(f.O); !is || o.K != api.Func {
			w.throw("call")
		}
		if w.called() >= 200 {
			panic(over{api.NoStack})
		}
		c := w.now
		c.calls++
		defer func() { c.calls-- }()
		return w.run(f.O, args)
	case f.K == api.Lib && f.O >= 0 && f.O < len(libNames):
		return w.lib(libNames[f.O], args)
	}
	return w.throw("call")
}

// caught does something, and tells its error, if there is one.
func (w *bench) caught(do func() api.Value) (failed bool, v api.Value) {
	defer func() {
		switch why := recover().(type) {
		case nil:
		case thrown:
			failed, v = true, why.v
		default:
			panic(why)
		}
	}()
	return false, do()
}

func (w *bench) pair(is bool, v api.Value) api.Value {
	t := w.table()
	w.setIndex(t, num(1), value.Bool(is))
	w.setIndex(t, num(2), v)
	return t
}

// lib calls a built-in function.
func (w *bench) lib(name string, args []api.Value) api.Value {
	others := args
	if len(args) > 0 {
		others = args[1:]
	}
	args = append(args, api.Value{}, api.Value{}, api.Value{})
	a, b, c := args[0], args[1], args[2]
	switch name {
	case "type":
		return value.Text(value.Name(a))
	case "tostring":
		return value.Text(value.Show(a))
	case "tonumber":
		if n, is := value.ToNum(a); is {
			return value.Num(n)
		}
		return api.Value{}
	case "error":
		panic(thrown{a})
	case "pcall":
		failed, v := w.caught(func() api.Value { return w.call(a, others) })
		return w.pair(!failed, v)
	case "next", "setmeta", "getmeta":
		return w.ofTable(name, a, b)
	case "create", "resume", "yield", "status":
		return w.ofThread(name, a, b)
	case "floor", "sqrt", "abs", "random":
		return w.ofNumber(name, a)
	}
	return w.ofText(name, a, b, c)
}

func (w *bench) ofTable(name string, a, b api.Value) api.Value {
	if a.K != api.Table {
		w.throw("index")
	}
	switch name {
	case "next":
		k, _, e := w.heap.Next(a.O, b)
		if e != api.OK {
			w.throw("key")
		}
		return k
	case "setmeta":
		if w.heap.SetMeta(a.O, b) != api.OK {
			w.throw("index")
		}
		return a
	}
	o, _ := w.heap.Object(a.O)
	return o.Meta
}

func (w *bench) ofNumber(name string, a api.Value) api.Value {
	if name == "random" && value.Show(a) == "nil" && a.K != api.Text {
		var n api.Num
		w.seed, n = rand.Unit(w.seed)
		return value.Num(n)
	}
	if a.K != api.Number {
		w.throw("arith")
	}
	switch name {
	case "floor":
		return num(math.Floor(float(a)))
	case "sqrt":
		return num(math.Sqrt(float(a)))
	case "abs":
		return num(math.Abs(float(a)))
	}
	n := w.whole64(a)
	if n < 1 {
		w.throw("arith")
	}
	var x uint64
	w.seed, x = rand.Below(w.seed, uint64(n))
	return num(float64(x + 1))
}

// whole64 is a number that must be whole.
func (w *bench) whole64(v api.Value) int64 {
	if v.K != api.Number {
		w.throw("arith")
	}
	f := float(v)
	if f != math.Trunc(f) || f < -0x1p63 || f >= 0x1p63 {
		w.throw("arith")
	}
	return int64(f)
}

// orElse is likewise, but another one of Nil.
func (w *bench) orElse(v api.Value, other int64) int64 {
	if value.Same(v, api.Value{}) {
		return other
	}
	return w.whole64(v)
}

func (w *bench) ofText(name string, a, b, c api.Value) api.Value {
	if name == "char" {
		n := w.whole64(a)
		if n < 0 || n > 255 {
			w.throw("text")
		}
		return value.Text(string([]byte{byte(n)}))
	}
	if a.K != api.Text || name == "find" && b.K != api.Text {
		w.throw("text")
	}
	switch name {
	case "sub":
		return value.Text(text.Sub(a.S, w.whole64(b), w.orElse(c, -1)))
	case "byte":
		if n, is := text.Byte(a.S, w.orElse(b, 1)); is {
			return num(float64(n))
		}
		return api.Value{}
	case "rep":
		s, e := text.Rep(a.S, w.whole64(b))
		if e != api.OK {
			w.throw("long")
		}
		return value.Text(s)
	case "find":
		if n, is := text.Find(a.S, b.S, w.orElse(c, 1)); is {
			return num(float64(n))
		}
		return api.Value{}
	case "upper":
		return value.Text(text.Upper(a.S))
	}
	return value.Text(text.Reverse(a.S))
}

func (w *bench) ofThread(name string, a, b api.Value) api.Value {
	switch name {
	case "create":
		if a.K != api.Func && a.K != api.Lib {
			w.throw("call")
		}
		o := w.need(w.heap.Make(api.Co, 0, 0, 1))
		w.heap.SetSlot(o, 0, a)
		return api.Value{K: api.Co, O: o}
	case "yield":
		return w.yield(a)
	}
	o, is := w.heap.Object(a.O)
	if a.K != api.Co || !is || o.K != api.Co {
		w.throw("resume")
	}
	if name == "status" {
		return value.Text([]string{"suspended", "running", "normal", "dead"}[o.A])
	}
	if o.A != 0 {
		return w.pair(false, value.Text("resume"))
	}
	return w.resume(a.O, b)
}

// resume lets a thread run until it tells something.
func (w *bench) resume(o int, v api.Value) api.Value {
	c := w.resumed[o]
	if c == nil {
		c = w.start(o)
		w.resumed[o] = c
	}
	c.handed, c.by, w.now = v, w.now, c
	if c.by.object > 0 {
		w.heap.Mark(c.by.object, 2)
	}
	w.heap.Mark(o, 1)
	told, _ := c.next()
	w.heap.Mark(o, told.state)
	if c.by.object > 0 {
		w.heap.Mark(c.by.object, 1)
	}
	w.now, c.by = c.by, nil
	return w.pair(!told.failed, told.v)
}

// start is the coroutine of a thread.
func (w *bench) start(o int) *coroutine {
	c := &coroutine{object: o}
	c.next, c.stop = iter.Pull(func(yield func(message) bool) {
		c.yield = yield
		failed, v := w.caught(func() api.Value { return w.call(w.heap.Slot(o, 0), []api.Value{c.handed}) })
		yield(message{state: 3, failed: failed, v: v})
	})
	return c
}

func (w *bench) yield(v api.Value) api.Value {
	c := w.now
	if c.object == 0 {
		return w.throw("yield")
	}
	if !c.yield(message{state: 0, v: v}) {
		panic(gone{})
	}
	return c.handed
}
