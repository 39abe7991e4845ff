package vm

import (
	"minstrel/api"
	"minstrel/flo"
	"minstrel/quo"
	"minstrel/rand"
	"minstrel/text"
	"minstrel/value"
	"minstrel/whole"
)

// library calls a built-in function. Those that call, or let others run, answer later, or elsewhere.
func (m *machine) library(n int, args []api.Value) {
	var three [3]api.Value
	copy(three[:], args)
	a, b, c := three[0], three[1], three[2]
	switch n {
	case api.LibPcall:
		m.running.calls = append(m.running.calls, &call{})
		m.call(a, args[min(1, len(args)):])
	case api.LibResume:
		m.resume(a, b)
	case api.LibYield:
		m.yield(a)
	case api.LibType, api.LibToString, api.LibToNumber, api.LibError, api.LibFloor, api.LibSqrt, api.LibAbs, api.LibRandom:
		m.answer(m.ofValues(n, a))
	case api.LibNext, api.LibSetMeta, api.LibGetMeta, api.LibCreate, api.LibStatus:
		m.answer(m.ofObjects(n, a, b))
	case api.LibSub, api.LibByte, api.LibChar, api.LibRep, api.LibFind, api.LibUpper, api.LibReverse:
		m.answer(ofTexts(n, a, b, c))
	default:
		raise("call")
	}
}

// ofValues are the built-in functions of one value, of whichever kind, or a number.
func (m *machine) ofValues(n int, a api.Value) api.Value {
	switch n {
	case api.LibType:
		return value.Text(value.Name(a))
	case api.LibToString:
		return value.Text(value.Show(a))
	case api.LibToNumber:
		x, is := value.ToNum(a)
		if !is {
			return api.Value{}
		}
		return value.Num(x)
	case api.LibError:
		panic(raised{a})
	case api.LibFloor:
		return value.Num(whole.Floor(number(a)))
	case api.LibSqrt:
		return value.Num(quo.Sqrt(number(a)))
	case api.LibAbs:
		return value.Num(flo.Abs(number(a)))
	}
	return m.random(a)
}

// random is a number by chance: below 1, or a whole one from 1 up to a.
func (m *machine) random(a api.Value) api.Value {
	if value.Normal(a).K == api.Nil {
		var x api.Num
		m.seed, x = rand.Unit(m.seed)
		return value.Num(x)
	}
	n := integer(a)
	if n < 1 {
		raise("arith")
	}
	var x uint64
	m.seed, x = rand.Below(m.seed, uint64(n))
	return value.Num(whole.FromInt(1 + int64(x)))
}

// integer is a number that must be whole.
func integer(v api.Value) int64 {
	n, is := whole.ToInt(number(v))
	if !is {
		raise("arith")
	}
	return n
}

// integerOr is likewise, but another one of Nil.
func integerOr(v api.Value, other int64) int64 {
	if value.Normal(v).K == api.Nil {
		return other
	}
	return integer(v)
}

// ofObjects are the built-in functions of tables and threads, but those that let threads run.
func (m *machine) ofObjects(n int, a, b api.Value) api.Value {
	switch n {
	case api.LibNext:
		k, _, e := m.heap.Next(tableOf(a), b)
		if e != api.OK {
			raise("key")
		}
		return k
	case api.LibSetMeta:
		if m.heap.SetMeta(tableOf(a), b) != api.OK {
			raise("index")
		}
		m.stands[a.O] = value.Normal(b)
		return a
	case api.LibGetMeta:
		return m.standsIn(tableOf(a))
	case api.LibCreate:
		return m.create(a)
	}
	return m.status(a)
}

// standsIn is what stands in for a table. It is asked of the heap but once, or a great table would be copied again and again for one call's cost.
func (m *machine) standsIn(o int) api.Value {
	v, known := m.stands[o]
	if !known {
		table, _ := m.heap.Object(o)
		v = table.Meta
		m.stands[o] = v
	}
	return v
}

// ofTexts are the built-in functions of texts.
func ofTexts(n int, a, b, c api.Value) api.Value {
	switch n {
	case api.LibSub:
		return value.Text(text.Sub(textOf(a), integer(b), integerOr(c, -1)))
	case api.LibByte:
		return place(text.Byte(textOf(a), integerOr(b, 1)))
	case api.LibChar:
		s, e := text.Char(integer(a))
		return told(s, e, "text")
	case api.LibRep:
		s, e := text.Rep(textOf(a), integer(b))
		return told(s, e, "long")
	case api.LibFind:
		return place(text.Find(textOf(a), textOf(b), integerOr(c, 1)))
	case api.LibUpper:
		return value.Text(text.Upper(textOf(a)))
	}
	return value.Text(text.Reverse(textOf(a)))
}

// textOf is that of a Text.
func textOf(v api.Value) string {
	if v.K != api.Text {
		raise("text")
	}
	return v.S
}

// place is a number that there is, else Nil.
func place(n int64, is bool) api.Value {
	if !is {
		return api.Value{}
	}
	return value.Num(whole.FromInt(n))
}

// told is a text, if there is one, else the error.
func told(s string, e api.Errno, wrong string) api.Value {
	if e != api.OK {
		raise(wrong)
	}
	return value.Text(s)
}
