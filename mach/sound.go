package mach

import (
	"minstrel/api"
	"minstrel/lex"
)

// variable is where one that functions share lies: in a register of one of a script's functions.
type variable struct{ script, function, register int }

// sound tells whether each object is one that scripts can make, and has what there is.
func (m *Machine) sound() bool {
	// The first object is not among what values are: no script has the table of global variables itself.
	there := func(v api.Value) bool {
		return v.O > 1 && v.O <= len(m.objects) && m.objects[v.O-1].K == v.K
	}
	has := func(v api.Value) bool {
		switch v.K {
		case api.Nil, api.False, api.True, api.Number, api.Text:
			return true
		case api.Lib:
			return v.O >= 0 && v.O < api.LibCount
		}
		return v.K != api.Box && there(v)
	}
	shares := m.sharing(there)
	for i, o := range m.objects {
		if i == 0 && !isGlobals(o) || !isSound(o, has, shares) {
			return false
		}
	}
	return true
}

// isGlobals tells whether an object may be the table of global variables: nothing but names that scripts say, with nothing that stands in for it.
func isGlobals(o api.Object) bool {
	name := func(k api.Value) bool { return k.K == api.Text && isName(k.S) }
	return o.K == api.Table && all(o.Keys, name) && o.Meta.K == api.Nil
}

func isName(s string) bool {
	words, _, e := lex.Words(s)
	return e == api.OK && words[0].K == api.TokName && words[0].S == s
}

// isSound tells whether an object is one that scripts make. It is handed which values they have, and which functions.
func isSound(o api.Object, has func(api.Value) bool, shares func(api.Object) bool) bool {
	switch o.K {
	case api.Table:
		return all(o.Keys, has) && all(o.Vals, has) && (o.Meta.K == api.Nil || o.Meta.K == api.Table && has(o.Meta))
	case api.Func:
		return shares(o)
	case api.Co:
		runs := func(v api.Value) bool { return (v.K == api.Func || v.K == api.Lib) && has(v) }
		return len(o.Slots) == 1 && all(o.Slots, runs)
	case api.Box:
		return len(o.Slots) == 1 && all(o.Slots, has)
	}
	return false
}

func all(l []api.Value, ask func(api.Value) bool) bool {
	for _, v := range l {
		if !ask(v) {
			return false
		}
	}
	return true
}

// sharing asks whether a function is one of a script's, and its slots are Boxes, each of them one variable alone, whichever functions share it.
func (m *Machine) sharing(there func(api.Value) bool) func(api.Object) bool {
	var scripts [][][]variable
	for i, s := range m.scripts {
		scripts = append(scripts, variables(i, s.function))
	}
	known := map[int]variable{}
	return func(o api.Object) bool {
		if o.A < 0 || o.A >= len(scripts) || o.B < 1 || o.B >= len(scripts[o.A]) || len(o.Slots) != len(scripts[o.A][o.B]) {
			return false
		}
		for i, is := range scripts[o.A][o.B] {
			box := o.Slots[i]
			was, met := known[box.O]
			if box.K != api.Box || !there(box) || met && was != is {
				return false
			}
			known[box.O] = is
		}
		return true
	}
}

// variables are those that each function of a script shares, in the order of its ups: the functions are those of prog.Flat, which copies much.
func variables(number int, p api.Proto) [][]variable {
	var flat [][]variable
	var lay func(p api.Proto, ups []variable)
	lay = func(p api.Proto, ups []variable) {
		place := len(flat)
		flat = append(flat, ups)
		for _, in := range p.Protos {
			own := make([]variable, len(in.Ups))
			for i, up := range in.Ups {
				if up.Own {
					own[i] = variable{number, place, up.At}
				} else {
					own[i] = ups[up.At]
				}
			}
			lay(in, own)
		}
	}
	lay(p, nil)
	return flat
}
