package vm

import (
	"minstrel/api"
	"minstrel/value"
	"minstrel/whole"
)

// machine is a run in a world. Calls lie in lists, not on Go's own stack, so that a thread can be left in the midst of them, and go on.
type machine struct {
	*World
	fuel    int
	running *thread
	threads map[int]*thread   // those that were resumed in this run and are not dead, by their objects
	stands  map[int]api.Value // what stands in for tables, as far as it was asked: the heap tells it only with a copy of the whole table
}

// thread is calls in one another, the innermost last.
type thread struct {
	object int     // 0 of the one in which the script itself runs
	by     *thread // the one that resumed it and waits for it
	calls  []*call
	funcs  int // how many of the calls are functions
	about  int // how many functions those that wait for it are calling
}

// call is a function that is being called, or, without a function, a pcall that waits for what it called.
type call struct {
	*function
	ups, regs []api.Value
	next      int // the order that comes next
}

// raised is an error of a script.
type raised struct{ v api.Value }

// ended is how a run ends.
type ended struct {
	how int
	v   api.Value
}

func raise(text string) { panic(raised{value.Text(text)}) }

func end(how int, v api.Value) { panic(ended{how, v}) }

// run calls the function of a script, and runs to the end.
func (m *machine) run(f *function) (out api.Outcome) {
	defer func() {
		why := recover()
		over, is := why.(ended)
		if !is {
			panic(why)
		}
		m.bury()
		out = api.Outcome{End: over.how, V: over.v, Fuel: m.fuel}
	}()
	m.running = &thread{}
	m.enter(f, nil, nil)
	for {
		m.fail(m.orders())
	}
}

// orders runs order by order until there is an error, and tells it.
func (m *machine) orders() (v api.Value) {
	defer func() {
		why := recover()
		wrong, is := why.(raised)
		if !is {
			panic(why)
		}
		v = wrong.v
	}()
	for {
		m.order(m.running.top())
	}
}

// bury: a thread knows nothing of its calls behind a run, so that it can't go on.
func (m *machine) bury() {
	for o := range m.threads {
		m.heap.Mark(o, api.Dead)
	}
}

func (m *machine) pay(cost int) {
	if cost > m.fuel {
		end(api.NoFuel, api.Value{})
	}
	m.fuel -= cost
}

// made is the number of a new object, if the heap had room for it.
func (m *machine) made(o int, e api.Errno) int {
	if e != api.OK {
		end(api.NoRoom, api.Value{})
	}
	return o
}

// object is all of the object of a value that has to be of a kind, which is not Table. A heap from elsewhere may have values whose objects are others, or none.
func (m *machine) object(v api.Value, kind int) (api.Object, bool) {
	if v.K != kind || isTable(m.heap, v.O) {
		return api.Object{}, false
	}
	o, is := m.heap.Object(v.O)
	return o, is && o.K == kind
}

// call calls what a value is.
func (m *machine) call(f api.Value, args []api.Value) {
	switch f.K {
	case api.Func:
		o, is := m.object(f, api.Func)
		if !is || o.A < 0 || o.A >= len(m.scripts) || o.B < 0 || o.B >= len(m.scripts[o.A]) {
			raise("call")
		}
		m.enter(m.scripts[o.A][o.B], o.Slots, args)
	case api.Lib:
		m.library(f.O, args)
	default:
		raise("call")
	}
}

// enter calls a function. Those that threads which wait are calling count too, so that there may be more than MaxCalls already when a thread goes on.
func (m *machine) enter(f *function, slots, args []api.Value) {
	t := m.running
	if t.about+t.funcs >= api.MaxCalls {
		end(api.NoStack, api.Value{})
	}
	c := &call{function: f, ups: make([]api.Value, len(f.Ups)), regs: make([]api.Value, f.Regs)}
	copy(c.ups, slots)
	copy(c.regs[:f.Params], args)
	t.calls = append(t.calls, c)
	t.funcs++
}

func (t *thread) top() *call { return t.calls[len(t.calls)-1] }

// pop takes the innermost call away.
func (t *thread) pop() *call {
	c := t.top()
	t.calls = t.calls[:len(t.calls)-1]
	if c.function != nil {
		t.funcs--
	}
	return c
}

// answer hands on what was answered to what waits for it: a function's call order, a pcall, or, behind a thread's last call, the thread that resumed it.
func (m *machine) answer(v api.Value) {
	for {
		t := m.running
		switch {
		case len(t.calls) == 0 && t.by == nil:
			end(api.Done, v)
		case len(t.calls) == 0:
			m.back(api.Dead)
		case t.top().function != nil:
			c := t.top()
			c.regs[c.Code[c.next-1].A] = v
			return
		default:
			t.pop()
		}
		v = m.pair(true, v)
	}
}

// fail leaves calls until a pcall catches the error, or else the resume that let the thread run.
func (m *machine) fail(v api.Value) {
	t := m.running
	for len(t.calls) > 0 {
		if t.pop().function == nil {
			m.answer(m.pair(false, v))
			return
		}
	}
	if t.by == nil {
		end(api.Failed, v)
	}
	m.back(api.Dead)
	m.answer(m.pair(false, v))
}

// pair is a new table of whether it went well, and what came.
func (m *machine) pair(is bool, v api.Value) api.Value {
	t := m.table()
	m.set(t.O, value.Num(whole.FromInt(1)), value.Bool(is))
	m.set(t.O, value.Num(whole.FromInt(2)), v)
	return t
}

func (m *machine) table() api.Value {
	return api.Value{K: api.Table, O: m.made(m.heap.Table())}
}

// set lets a table have a value under a key.
func (m *machine) set(o int, k, v api.Value) {
	switch m.heap.Set(o, k, v) {
	case api.ErrNone:
		raise("index")
	case api.ErrArg:
		raise("key")
	case api.ErrLong:
		end(api.NoRoom, api.Value{})
	}
}
