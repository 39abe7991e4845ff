package snap_test

import (
	"bytes"
	"math/rand"
	"reflect"
	"slices"
	"testing"

	"minstrel/api"
	"minstrel/snap"
)

// room is where a list lies, its spare room too.
type room struct{ from, to uintptr }

func roomOf[T any](l []T) room {
	from := reflect.ValueOf(l).Pointer()
	return room{from, from + uintptr(cap(l))*reflect.TypeFor[T]().Size()}
}

// roomsOf are those of all lists of a cell.
func roomsOf(c api.Cell) []room {
	all := []room{roomOf(c.L)}
	for _, p := range c.L {
		all = append(all, roomsOf(p)...)
	}
	return all
}

// apart tells whether no two of the lists share any memory.
func apart(all ...room) bool {
	all = slices.DeleteFunc(all, func(r room) bool { return r.from == r.to })
	slices.SortFunc(all, func(a, b room) int {
		if a.from < b.from {
			return -1
		}
		return 1
	})
	for i := 1; i < len(all); i++ {
		if all[i].from < all[i-1].to {
			return false
		}
	}
	return true
}

// roomy is a list with spare room in which something stands.
func roomy[T any](l []T, spare ...T) []T {
	return append(append(make([]T, 0, len(l)+len(spare)), l...), spare...)[:len(l)]
}

// roomyCell is a cell whose lists have spare room.
func roomyCell(c api.Cell) api.Cell {
	for i := range c.L {
		c.L[i] = roomyCell(c.L[i])
	}
	if c.K == api.CellList {
		c.L = roomy(c.L, num(77), many(num(78)))
	}
	return c
}

// wholeCell is a cell with what stands in the spare room as part of it, in lists of its own.
func wholeCell(c api.Cell) api.Cell {
	l := slices.Clone(c.L[:cap(c.L)])
	for i := range l {
		l[i] = wholeCell(l[i])
	}
	c.L = l
	return c
}

// P19.1, P19.2: no call changes what it is handed, its spare room included.
func TestNothingChanged(t *testing.T) {
	m := maker{rand.New(rand.NewSource(201)), 30}
	for range 2000 {
		s := m.snap()
		s.Members, s.Sess, s.State = roomy(s.Members, 99, 98), roomyCell(s.Sess), roomyCell(s.State)
		members, sess, state := slices.Clone(s.Members[:cap(s.Members)]), wholeCell(s.Sess), wholeCell(s.State)
		b, _ := snap.Save(s)
		snap.Members(s.Members)
		if !slices.Equal(s.Members[:cap(s.Members)], members) || !alike(wholeCell(s.Sess), sess) || !alike(wholeCell(s.State), state) {
			t.Fatal("Save changed", s)
		}
		b = roomy(b, []byte("spare")...)
		was := slices.Clone(b[:cap(b)])
		snap.Load(b)
		snap.Load(b[:len(b)/2])
		if !bytes.Equal(b[:cap(b)], was) {
			t.Fatal("Load changed", s)
		}
		e := m.entry()
		e.Members = roomy(e.Members, 99, 98)
		members = slices.Clone(e.Members[:cap(e.Members)])
		c, err := snap.EntryCell(e)
		if !slices.Equal(e.Members[:cap(e.Members)], members) {
			t.Fatal("EntryCell changed", e)
		}
		if err != api.OK {
			c = m.cell(4)
		}
		c = roomyCell(c)
		whole := wholeCell(c)
		snap.FromEntry(c)
		if !alike(wholeCell(c), whole) {
			t.Fatal("FromEntry changed", c)
		}
	}
}

// P19.1, P19.2: what is answered lies in memory of its own: not with what was handed in, not with another answer, and no two lists of it together.
func TestNewMemory(t *testing.T) {
	m := maker{rand.New(rand.NewSource(202)), 0}
	for range 500 {
		s := m.snap()
		s.Members, s.Sess, s.State = roomy(s.Members, 99), roomyCell(s.Sess), roomyCell(s.State)
		one, _ := snap.Save(s)
		two, _ := snap.Save(s)
		x, _ := snap.Load(one)
		y, _ := snap.Load(one)
		all := []room{roomOf(s.Members), roomOf(one), roomOf(two), roomOf(x.Members), roomOf(y.Members)}
		for _, c := range []api.Cell{s.Sess, s.State, x.Sess, x.State, y.Sess, y.State} {
			all = append(all, roomsOf(c)...)
		}
		if !apart(all...) {
			t.Fatal("Save or Load shares memory", s)
		}
		e := m.entry()
		e.Members = roomy(e.Members, 99)
		c, _ := snap.EntryCell(e)
		d, _ := snap.EntryCell(e)
		f, _ := snap.FromEntry(c)
		g, _ := snap.FromEntry(c)
		all = append(append(roomsOf(c), roomsOf(d)...), roomOf(e.Members), roomOf(f.Members), roomOf(g.Members))
		if !apart(all...) {
			t.Fatal("EntryCell or FromEntry shares memory", e)
		}
	}
}

// P19.1, P19.2: what is done to an argument, or an answer, behind the call shows nowhere else.
func TestNothingKept(t *testing.T) {
	s := example()
	b, _ := snap.Save(s)
	s.Members[0], s.Sess.L[0] = 9, num(9)
	if !bytes.Equal(b, saved()) {
		t.Error("Save keeps what it is handed")
	}
	x, _ := snap.Load(b)
	y, _ := snap.Load(b)
	clear(b)
	if !alikeSnaps(x, example()) {
		t.Error("Load keeps what it is handed")
	}
	x.Members[1], x.Sess.L[0] = 9, num(9)
	if !alikeSnaps(y, example()) {
		t.Error("two snapshots share memory")
	}
	e := api.Entry{Term: 1, Kind: api.EntryMembers, Members: []int{1, 2}}
	c, _ := snap.EntryCell(e)
	e.Members[0] = 9
	want := many(num(1), num(2), nums(1, 2))
	if !alike(c, want) {
		t.Error("EntryCell keeps what it is handed")
	}
	f, _ := snap.FromEntry(c)
	c.L[2].L[0] = num(9)
	if !slices.Equal(f.Members, []int{1, 2}) {
		t.Error("FromEntry keeps what it is handed")
	}
}
