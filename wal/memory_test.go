package wal_test

import (
	"math/rand"
	"slices"
	"testing"

	"minstrel/api"
	"minstrel/code"
)

// roomy is a list with spare room behind it, which is filled.
func roomy[T any](spare T, l ...T) []T {
	with := append(slices.Clone(l), spare, spare, spare)
	return with[:len(l)]
}

// rich is a snapshot with lists in lists, all with spare room.
func rich(index uint64) api.Snap {
	inner := api.Cell{K: api.CellList, L: roomy(code.Number(77), code.Number(1), code.Text("in"))}
	return api.Snap{
		Index: index, Term: 2, Members: roomy(63, 1, 5, 9),
		Sess:  api.Cell{K: api.CellList, L: roomy(code.Text("spare"), inner, code.Number(3))},
		State: api.Cell{K: api.CellList, L: roomy(code.Text("spare"), code.Text("state"), inner)},
	}
}

// spoilCell changes all that a cell has, spare room too.
func spoilCell(c api.Cell) {
	l := c.L[:cap(c.L)]
	for i := range l {
		spoilCell(l[i])
		l[i] = api.Cell{K: api.CellText, S: "spoilt"}
	}
}

func spoilInts(l []int) {
	l = l[:cap(l)]
	for i := range l {
		l[i] = 40 - i
	}
}

func spoilSnap(s api.Snap) {
	spoilInts(s.Members)
	spoilCell(s.Sess)
	spoilCell(s.State)
}

// P21.1, Rules, Memory: what was handed in is not kept, and what is handed out is not the wal's own, nor another answer's.
func TestNotKept(t *testing.T) {
	b := newBench(t)
	l := roomy(7, 1, 2, 3)
	b.do(t, none(1), members(2, 1, 2, 3), none(2))
	must(t, b.w, cut(2), put(api.Entry{Term: 2, Kind: api.EntryMembers, Members: l}), none(2))
	spoilInts(l)
	mustTell(t, b.w, b.has)
	s := rich(1)
	s.Term = 1
	kept := rich(1)
	kept.Term = 1
	if e := b.w.Install(s); e != api.OK {
		t.Fatal(e)
	}
	_, b.has = b.has.do(install(kept))
	spoilSnap(s)
	mustTell(t, b.w, b.has)
	for range 2 {
		first, _ := b.w.Snap()
		second, _ := b.w.Snap()
		want := string(snapBytes(second))
		spoilSnap(first)
		if got := string(snapBytes(second)); got != want {
			t.Fatal("two answers share memory")
		}
		mustTell(t, b.w, b.has)
		e, _ := b.w.Entry(2)
		f, _ := b.w.Entry(2)
		spoilInts(e.Members)
		if !slices.Equal(f.Members, []int{1, 2, 3}) {
			t.Fatal(f)
		}
		mustTell(t, b.w, b.has)
		// What Install lays anew, and what Open reads, is not spoilt either.
		b.w = opened(t, b.d)
		mustTell(t, b.w, b.has)
	}
	must(t, b.w, install(snapOf(2, 9)))
	if e, is := b.w.Entry(2); is {
		t.Error(e)
	}
}

// P21.2, Rules, Memory: what stays behind Install is not shared with what is added or cut later.
func TestStays(t *testing.T) {
	for seed := range 50 {
		by := rand.New(rand.NewSource(int64(seed)))
		b := newBench(t)
		for n := uint64(1); n < 20; n++ {
			b.do(t, members(n%3, 1+by.Intn(64)))
		}
		for range 10 {
			e, is := b.w.Entry(b.w.Last())
			l := slices.Clone(e.Members)
			base, _ := b.w.Base()
			b.do(t, cut(base+1+uint64(by.Intn(int(b.w.Last()-base)+1))), members(1, 33), members(2, 34), members(0, 35))
			if is && !slices.Equal(l, e.Members) {
				t.Fatal("an entry that was answered has changed")
			}
			from, _ := b.w.Entry(b.w.Last() - 2)
			b.do(t, install(snapOf(b.w.Last()-2, from.Term)), none(7))
		}
	}
}

// Rules, Memory: what is handed in is not changed, its spare room included.
func TestNotChanged(t *testing.T) {
	b := newBench(t)
	l := roomy(7, 1, 2, 3)
	must(t, b.w, put(api.Entry{Term: 2, Kind: api.EntryMembers, Members: l}), none(1))
	if !slices.Equal(l[:cap(l)][:6], []int{1, 2, 3, 7, 7, 7}) {
		t.Error(l[:cap(l)])
	}
	s, same := rich(1), rich(1)
	must(t, b.w, install(s))
	if !slices.Equal(s.Members[:6], same.Members[:6]) || !sameAll(s.Sess, same.Sess) || !sameAll(s.State, same.State) {
		t.Error(s)
	}
}

// sameAll is whether cells are the same, spare room too.
func sameAll(a, b api.Cell) bool {
	if a.K != b.K || a.N != b.N || a.S != b.S || len(a.L) != len(b.L) || cap(a.L) != cap(b.L) {
		return false
	}
	return slices.EqualFunc(a.L[:cap(a.L)], b.L[:cap(b.L)], sameAll)
}
