package vm

import (
	"minstrel/api"
	"minstrel/value"
)

// states are what scripts call the states of threads.
var states = [...]string{
	api.Suspended: "suspended",
	api.Running:   "running",
	api.Normal:    "normal",
	api.Dead:      "dead",
}

// create is a new thread, which will run a function.
func (m *machine) create(f api.Value) api.Value {
	if f.K != api.Func && f.K != api.Lib {
		raise("call")
	}
	o := m.made(m.heap.Make(api.Co, api.Suspended, 0, 1))
	m.heap.SetSlot(o, 0, f)
	return api.Value{K: api.Co, O: o}
}

// thread is the object of a Co.
func (m *machine) thread(v api.Value) api.Object {
	o, is := m.object(v, api.Co)
	if !is {
		raise("resume")
	}
	return o
}

// status is the name of a thread's state. A heap from elsewhere may have a state that is none: such a thread can't be resumed, as a dead one.
func (m *machine) status(co api.Value) api.Value {
	state := m.thread(co).A
	if state < 0 || state >= len(states) {
		state = api.Dead
	}
	return value.Text(states[state])
}

// resume lets a thread run, from its beginning or from where it yielded, while the one that runs waits.
func (m *machine) resume(co, v api.Value) {
	if m.thread(co).A != api.Suspended {
		m.answer(m.pair(false, value.Text("resume")))
		return
	}
	t, begun := m.threads[co.O]
	if !begun {
		t = &thread{object: co.O}
		m.threads[co.O] = t
	}
	t.by, t.about = m.running, m.running.about+m.running.funcs
	m.mark(m.running, api.Normal)
	m.mark(t, api.Running)
	m.running = t
	if begun {
		m.answer(v)
	} else {
		m.call(m.heap.Slot(co.O, 0), []api.Value{v})
	}
}

// yield leaves the thread that runs as it is. Its answer comes when it is resumed.
func (m *machine) yield(v api.Value) {
	if m.running.by == nil {
		raise("yield")
	}
	m.back(api.Suspended)
	m.answer(m.pair(true, v))
}

// back lets the thread that waits for the running one run again.
func (m *machine) back(state int) {
	t := m.running
	m.mark(t, state)
	if state == api.Dead {
		delete(m.threads, t.object)
	}
	m.running, t.by = t.by, nil
	m.mark(m.running, api.Running)
}

// mark notes a thread's state in its object. The script's own thread has none.
func (m *machine) mark(t *thread, state int) {
	if t.object > 0 {
		m.heap.Mark(t.object, state)
	}
}
