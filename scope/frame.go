package scope

import (
	"slices"

	"minstrel/api"
)

// frame is a function (or the whole script) that is being gone through.
type frame struct {
	about *frame      // the function right about it; of the script none
	there []*api.Node // whose variables are there now: Params, Locals, Fors, each in its slot
	ups   []api.Up
	loops int // in how many of its loops the next node lies
}

// node goes through a node, and finds what its names are, as the text has them.
func (f *frame) node(n *api.Node) {
	switch n.K {
	case api.Block:
		f.inside(func() { f.parts(n.L) })
	case api.Local:
		f.local(n)
	case api.While:
		f.node(&n.L[0])
		f.loop(&n.L[1])
	case api.For:
		f.parts(n.L[:3])
		f.inside(func() {
			f.add(n)
			f.loop(&n.L[3])
		})
	case api.Break:
		if f.loops == 0 {
			panic(fault{n.At, api.ErrState})
		}
	case api.NameExp:
		f.name(n)
	case api.FuncExp:
		f.function(n)
	case api.Param:
		f.add(n)
	default:
		f.parts(n.L)
	}
}

// parts goes through nodes one behind the other.
func (f *frame) parts(l []api.Node) {
	for i := range l {
		f.node(&l[i])
	}
}

// inside does what lies in a block, behind which the block's variables are gone.
func (f *frame) inside(do func()) {
	ahead := len(f.there)
	do()
	f.there = f.there[:ahead]
}

// loop goes through a loop's block.
func (f *frame) loop(block *api.Node) {
	f.loops++
	f.node(block)
	f.loops--
}

// add gives a node's variable the next free slot.
func (f *frame) add(n *api.Node) {
	if len(f.there) == api.MaxSlots {
		panic(fault{n.At, api.ErrLong})
	}
	n.A, n.B = len(f.there), 0
	f.there = append(f.there, n)
}

// local goes through a Local. The value of a local function knows the name already, any other one does not.
func (f *frame) local(n *api.Node) {
	if n.A != marked {
		f.parts(n.L)
		f.add(n)
		return
	}
	f.add(n)
	n.B = 2
	f.parts(n.L)
}

// function goes through a function within this one.
func (f *frame) function(n *api.Node) {
	inner := frame{about: f}
	inner.parts(n.L)
	n.A, n.Ups = len(n.L)-1, inner.ups
}

// name finds which variable a name is.
func (f *frame) name(n *api.Node) {
	if slot, ok := f.slot(n.S); ok {
		n.K, n.A = api.LocalExp, slot
	} else if place, ok := f.up(n); ok {
		n.K, n.A = api.UpExp, place
	} else {
		n.K = api.GlobalExp
	}
}

// slot is that of the variable of a name among the function's own ones. (The last one is the innermost.)
func (f *frame) slot(name string) (int, bool) {
	for slot, n := range slices.Backward(f.there) {
		if n.S == name {
			return slot, true
		}
	}
	return 0, false
}

// up is the place of a name's variable among the function's ups. It becomes one, here and in the functions between, if it is one of a function about it.
func (f *frame) up(n *api.Node) (int, bool) {
	if f.about == nil {
		return 0, false
	}
	var up api.Up
	if slot, ok := f.about.slot(n.S); ok {
		f.about.there[slot].B |= 1
		up = api.Up{Own: true, At: slot}
	} else if place, ok := f.about.up(n); ok {
		up = api.Up{At: place}
	} else {
		return 0, false
	}
	return f.place(up, n.At), true
}

// place is that of an up among the function's, of which it is made one where it is met first. (While the function is gone through, no slot of those about it changes hands.)
func (f *frame) place(up api.Up, at int) int {
	if place := slices.Index(f.ups, up); place >= 0 {
		return place
	}
	if len(f.ups) == api.MaxUps {
		panic(fault{at, api.ErrLong})
	}
	f.ups = append(f.ups, up)
	return len(f.ups) - 1
}
