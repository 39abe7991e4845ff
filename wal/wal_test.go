package wal_test

import (
	"math"
	"math/rand"
	"strings"
	"testing"

	"minstrel/api"
	"minstrel/code"
	"minstrel/disk"
	"minstrel/snap"
	"minstrel/wal"
)

// P21.5, example 1: what was synced is there behind a crash that keeps nothing.
func TestExample(t *testing.T) {
	d := newDisk(t, 1000)
	w := opened(t, d)
	must(t, w, vote(3, 1), command(3, "a"), sync(), command(3, "b"))
	d.Crash(0, nil)
	w = opened(t, d)
	if w.Term() != 3 || w.Vote() != 1 || w.Last() != 1 {
		t.Error(w.Term(), w.Vote(), w.Last())
	}
	if e, is := w.Entry(1); e.Term != 3 || e.Kind != api.EntryCommand || e.Data != "a" || !is {
		t.Error(e, is)
	}
}

// P21.1: all is 0 and none at first.
func TestFirst(t *testing.T) {
	b := newBench(t)
	b.hold(t)
	if base, term := b.w.Base(); base != 0 || term != 0 || b.w.Last() != 0 || b.w.Term() != 0 || b.w.Vote() != 0 {
		t.Error(base, term, b.w.Last(), b.w.Term(), b.w.Vote())
	}
	if s, is := b.w.Snap(); is || !empty(s) {
		t.Error(s)
	}
	for _, n := range []uint64{0, 1, 2, 1 << 32, 1 << 63, math.MaxUint64} {
		if e, is := b.w.Entry(n); is || e.Term != 0 || e.Kind != 0 || e.Data != "" || e.Members != nil {
			t.Error(n, e)
		}
	}
}

// P21.1, P21.2, P21.4: a row of all acts, behind each of which it tells, and the disk has, what they come to.
func TestRow(t *testing.T) {
	b := newBench(t)
	b.do(t, row()...)
	if b.number != 5 {
		t.Error("segments:", b.number)
	}
	b.w = opened(t, b.d)
	b.fast = len(b.bytes)
	b.hold(t)
}

// P21.1, P21.2: a row reckoned by hand.
func TestByHand(t *testing.T) {
	w := opened(t, newDisk(t, 10000))
	at := func(last uint64, terms ...uint64) {
		t.Helper()
		base, _ := w.Base()
		if w.Last() != last || base+uint64(len(terms)) != last {
			t.Fatal("last", w.Last(), "base", base)
		}
		for i, term := range terms {
			if e, is := w.Entry(base + 1 + uint64(i)); e.Term != term || !is {
				t.Fatal(base+1+uint64(i), e, is)
			}
		}
		if _, is := w.Entry(base); is {
			t.Fatal("the base is an entry")
		}
		if _, is := w.Entry(last + 1); is {
			t.Fatal("an entry behind the last one")
		}
	}
	must(t, w, none(1), none(2), none(2), none(3))
	at(4, 1, 2, 2, 3)
	must(t, w, cut(3), none(5), none(5), none(6))
	at(5, 1, 2, 5, 5, 6)
	must(t, w, install(snapOf(2, 2)))
	at(5, 5, 5, 6)
	must(t, w, install(snapOf(4, 5)))
	at(5, 6)
	must(t, w, cut(5))
	at(4)
	must(t, w, none(7), none(8), cut(7))
	at(6, 7, 8)
	must(t, w, install(snapOf(5, 6)))
	at(5)
	must(t, w, none(9), install(snapOf(6, 9)))
	at(6)
	must(t, w, none(9), install(snapOf(8, 9)))
	at(8)
	must(t, w, none(9), none(9), install(snapOf(1<<62, 9)))
	at(1 << 62)
	must(t, w, none(10))
	at(1<<62+1, 10)
	if s, is := w.Snap(); !is || s.Index != 1<<62 || s.Term != 9 {
		t.Error(s, is)
	}
	if base, term := w.Base(); base != 1<<62 || term != 9 {
		t.Error(base, term)
	}
}

// P21.2: SetVote of votes on both sides of 0 and of 64, and of terms.
func TestSetVote(t *testing.T) {
	for _, n := range []int{math.MinInt, -1 << 32, -1<<32 + 1, -64, -1, 65, 66, 128, 256, 256 + 3, 1 << 31, 1 << 32, 1<<32 + 1, math.MaxInt} {
		b := newBench(t)
		b.do(t, vote(7, n))
		b.do(t, vote(2, 5), vote(3, n))
		if b.w.Term() != 2 || b.w.Vote() != 5 {
			t.Error(n, b.w.Term(), b.w.Vote())
		}
	}
	for n := range 65 {
		for _, term := range []uint64{0, 1, 2, 64, 255, 256, 1 << 32, 1 << 62, 1<<63 - 1, 1 << 63, math.MaxUint64} {
			b := newBench(t)
			b.do(t, vote(term, n))
			if b.w.Term() != term || b.w.Vote() != n {
				t.Error(n, b.w.Term(), b.w.Vote())
			}
			b.do(t, vote(term, n), sync(), vote(term/2, n/2), vote(0, 0))
			b.w = opened(t, b.d)
			mustTell(t, b.w, b.has)
		}
	}
}

// P21.2: Append of entries that snap.EntryCell refuses, with its error, and of those on their edges.
func TestAppend(t *testing.T) {
	long := strings.Repeat("x", 1<<16)
	bad := []struct {
		e    api.Entry
		want api.Errno
	}{
		{api.Entry{Kind: 3}, api.ErrArg},
		{api.Entry{Kind: -1}, api.ErrArg},
		{api.Entry{Kind: math.MaxInt, Data: long + "x"}, api.ErrArg},
		{api.Entry{Kind: math.MinInt}, api.ErrArg},
		{api.Entry{Kind: api.EntryCommand, Data: long + "x"}, api.ErrLong},
		{api.Entry{Kind: api.EntryMembers}, api.ErrArg},
		{api.Entry{Kind: api.EntryMembers, Members: []int{}}, api.ErrArg},
		{api.Entry{Kind: api.EntryMembers, Members: []int{0}}, api.ErrArg},
		{api.Entry{Kind: api.EntryMembers, Members: []int{65}}, api.ErrArg},
		{api.Entry{Kind: api.EntryMembers, Members: []int{2, 1}}, api.ErrArg},
		{api.Entry{Kind: api.EntryMembers, Members: []int{2, 2}}, api.ErrArg},
	}
	for _, c := range bad {
		b := newBench(t)
		b.do(t, put(c.e), none(1), put(c.e), cut(1), put(c.e))
		if e := b.w.Append(c.e); e != c.want {
			t.Error(c.want, e)
		}
	}
	var every []int
	for n := range 64 {
		every = append(every, n+1)
	}
	for _, term := range []uint64{0, 1, math.MaxUint64} {
		b := newBench(t)
		b.do(t, none(term), command(term, ""), command(term, long), command(term, "\x00\xff"), members(term, 1), members(term, 64), members(term, every...))
		b.w = opened(t, b.d)
		mustTell(t, b.w, b.has)
	}
}

// P21.1: of an entry, and of a snapshot, there is only what plays a part, as behind the next Open.
func TestNoPart(t *testing.T) {
	b := newBench(t)
	b.do(t, put(api.Entry{Term: 1, Data: "x", Members: []int{1}}))
	b.do(t, put(api.Entry{Term: 1, Kind: api.EntryCommand, Data: "y", Members: []int{5, 5}}))
	b.do(t, put(api.Entry{Term: 1, Kind: api.EntryMembers, Data: strings.Repeat("z", 1<<17), Members: []int{5}}))
	s := snapOf(1, 1)
	s.Sess = api.Cell{K: api.CellNumber, N: 3, S: "x", L: []api.Cell{{}}}
	s.State = api.Cell{K: api.CellText, N: 3, S: "x", L: []api.Cell{{}}}
	b.do(t, install(s))
	for range 2 {
		if s, _ := b.w.Snap(); s.Sess.S != "" || s.Sess.L != nil || s.State.N != 0 || s.State.L != nil {
			t.Error(s)
		}
		b.w = opened(t, b.d)
		mustTell(t, b.w, b.has)
	}
}

// P21.2: 4096 entries behind the base, and none more, whatever comes ahead or goes.
func TestMaxLog(t *testing.T) {
	d := newDisk(t, 1<<26)
	w := opened(t, d)
	var has words
	add := func(n int) {
		t.Helper()
		for range n {
			must(t, w, none(w.Last()))
			has.entries = append(has.entries, numbered{has.last() + 1, api.Entry{Term: has.last()}})
		}
		mustTell(t, w, has)
	}
	full := func() {
		t.Helper()
		used := d.Used()
		for _, a := range []act{none(1), command(1, "x"), members(1, 1), put(api.Entry{Kind: api.EntryCommand, Data: strings.Repeat("x", 1<<16+1)})} {
			if e := do(w, a); e != api.ErrLong {
				t.Fatal(a, e)
			}
		}
		for _, a := range []act{put(api.Entry{Kind: 3}), members(1), members(1, 0)} {
			if e := do(w, a); e != api.ErrArg {
				t.Fatal(a, e)
			}
		}
		if d.Used() != used {
			t.Fatal("what is refused was laid")
		}
		mustTell(t, w, has)
	}
	add(4096)
	full()
	w = opened(t, d)
	full()
	_, has = has.do(cut(4096))
	must(t, w, vote(9, 9), cut(4096))
	has.term, has.vote = 9, 9
	add(1)
	full()
	_, has = has.do(install(snapOf(10, 9)))
	must(t, w, install(snapOf(10, 9)))
	add(10)
	full()
	w = opened(t, d)
	full()
	must(t, w, sync())
	d.Crash(0, nil)
	w = opened(t, d)
	full()
}

// P21.2: Cut at the base and below it, from just above it to just behind the last entry, and above that.
func TestCut(t *testing.T) {
	for _, base := range []uint64{0, 1, 2, 7, 1<<32 - 1, 1 << 32, 1<<62 - 1, 1 << 62} {
		for count := range uint64(5) {
			for _, from := range []uint64{0, 1, 2, base - 2, base - 1, base, base + 1, base + 2, base + 3, base + 4, base + 5, base + 6, base + 7, base + 1<<32, base + 1<<32 + 1, base + 1<<63, base + 1<<63 + 1, math.MaxInt64, math.MaxUint64 - 1, math.MaxUint64} {
				b := newBench(t)
				if base > 0 {
					b.do(t, install(snapOf(base, 1)))
				}
				for i := range count {
					b.do(t, none(2+i))
				}
				b.do(t, cut(from), none(9), cut(from), cut(base+1), none(10))
			}
		}
	}
}

// P21.2: Install of numbers and terms of all kinds, entries of which stay, or all are gone.
func TestInstall(t *testing.T) {
	for _, base := range []uint64{0, 1, 5, 1<<62 - 4} {
		for count := range uint64(4) {
			for index := max(base, 2) - 2; index <= base+6; index++ {
				for term := range uint64(5) {
					b := newBench(t)
					if base > 0 {
						b.do(t, install(snapOf(base, 1)))
					}
					b.do(t, vote(4, 3))
					for i := range count {
						b.do(t, command(1+i, strings.Repeat("x", int(i))))
					}
					s := api.Snap{Index: index, Term: term, Members: []int{2}, Sess: code.Text("sess"), State: code.List(code.Number(index))}
					b.do(t, install(s), none(8), install(s), sync())
					b.w = opened(t, b.d)
					mustTell(t, b.w, b.has)
				}
			}
		}
	}
}

// P21.2: Install of what snap.Save refuses, with its error, which is ahead of that of the number.
func TestInstallRefused(t *testing.T) {
	good := snapOf(5, 1)
	bad := []struct {
		change func(s *api.Snap)
		want   api.Errno
	}{
		{func(s *api.Snap) { s.Members = nil }, api.ErrArg},
		{func(s *api.Snap) { s.Members = []int{3, 1} }, api.ErrArg},
		{func(s *api.Snap) { s.Members = []int{65}; s.Index = math.MaxUint64 }, api.ErrArg},
		{func(s *api.Snap) { s.Index = 1<<62 + 1 }, api.ErrLong},
		{func(s *api.Snap) { s.Index = math.MaxUint64 }, api.ErrLong},
		{func(s *api.Snap) { s.Index = 0; s.State = code.Text(strings.Repeat("x", 1<<20)) }, api.ErrLong},
		{func(s *api.Snap) { s.Index = 0; s.Sess.K = 3 }, api.ErrArg},
		{func(s *api.Snap) { s.State = deep(64) }, api.ErrLong},
		{func(s *api.Snap) { s.Index = 0 }, api.ErrArg},
		{func(s *api.Snap) { s.Index = 4 }, api.ErrArg},
		{func(s *api.Snap) { s.Index = 4; s.Term = 7 }, api.ErrArg},
	}
	for i, c := range bad {
		b := newBench(t)
		b.do(t, vote(1, 1), none(1), install(snapOf(4, 2)), none(1), none(2))
		s := good
		c.change(&s)
		b.do(t, install(s))
		if e := b.w.Install(s); e != c.want {
			t.Error(i, e, c.want)
		}
		b.do(t, sync(), none(1), install(good))
	}
	b := newBench(t)
	s := good
	s.State = deep(63)
	b.do(t, install(s))
	b.w = opened(t, b.d)
	mustTell(t, b.w, b.has)
}

// deep is so many lists in one another.
func deep(n int) api.Cell {
	c := api.Cell{K: api.CellList}
	for range n - 1 {
		c = api.Cell{K: api.CellList, L: []api.Cell{c}}
	}
	return c
}

// P21.2, P21.3: a snapshot that can be saved, but whose record would have too many bytes, is ErrLong, behind the other errors.
func TestInstallLong(t *testing.T) {
	s := snapOf(5, 1)
	s.State = code.Text("")
	b, _ := snap.Save(s)
	// The record's list, its number, and the head of its text.
	room := 1<<20 - len(b) - 5 - 9 - 5
	for more := -2; more <= 30; more++ {
		s.State.S = strings.Repeat("x", room+more)
		if _, e := snap.Save(s); (e == api.OK) != (more <= 27) {
			t.Fatal("Save:", more, e)
		}
		want := api.OK
		if more > 0 {
			want = api.ErrLong
		}
		b := newBench(t)
		b.do(t, vote(3, 4), none(1), none(1))
		if e := b.w.Install(s); e != want {
			t.Fatal(more, e)
		}
		if e := b.w.Sync(); e != api.OK {
			t.Fatal("the disk refused nothing:", e)
		}
		want = api.ErrArg
		if more > 27 {
			want = api.ErrLong
		}
		must(t, b.w, install(snapOf(6, 1)))
		if e := b.w.Install(s); e != want {
			t.Fatal(more, e)
		}
	}
	b2 := newBench(t)
	s.State.S = strings.Repeat("x", room)
	b2.do(t, none(1), install(s))
	b2.w = opened(t, b2.d)
	b2.hold(t)
	s.State.S, s.Index = s.State.S+"x", 6
	b2.do(t, install(s), none(1))
}

// P21.1, P21.2, P21.4: acts by chance, and Opens between them.
func TestByChance(t *testing.T) {
	for seed := range 300 {
		by := rand.New(rand.NewSource(int64(seed)))
		b := newBench(t)
		for range 60 {
			b.do(t, chance(by, b.has))
			if by.Intn(8) == 0 {
				b.w = opened(t, b.d)
				b.fast = len(b.bytes)
				b.hold(t)
			}
		}
	}
}

// chance is an act by chance, most of which are OK.
func chance(by *rand.Rand, w words) act {
	base, _ := w.base()
	index := base + uint64(by.Intn(int(w.last()-base)+3))
	switch by.Intn(12) {
	case 0, 1:
		return vote(uint64(by.Intn(5)), by.Intn(67)-1)
	case 2:
		return none(uint64(by.Intn(3)))
	case 3, 4:
		return command(uint64(by.Intn(3)), strings.Repeat("d", by.Intn(9)))
	case 5:
		return members(uint64(by.Intn(3)), by.Intn(33), 33+by.Intn(33))
	case 6, 7:
		return cut(index)
	case 8:
		return install(api.Snap{Index: index, Term: uint64(by.Intn(3)), Members: []int{1 + by.Intn(64)}, State: code.Number(by.Uint64())})
	case 9:
		return sync()
	}
	return none(uint64(by.Intn(3)))
}

// P21.1: two wals know nothing of one another.
func TestTwo(t *testing.T) {
	a, b := newBench(t), newBench(t)
	acts := row()
	for i := range acts {
		a.do(t, acts[i])
		if i%3 == 0 {
			b.do(t, acts[i/3])
		}
		b.hold(t)
	}
	a.hold(t)
}

// Rules, Ends: nothing panics, that of no making of the program's own either.
func TestZero(t *testing.T) {
	var w wal.Wal
	for _, a := range row() {
		do(&w, a)
	}
	w.Term()
	w.Vote()
	w.Snap()
	w.Base()
	w.Last()
	for _, n := range []uint64{0, 1, math.MaxUint64} {
		w.Entry(n)
	}
	v, e := wal.Open(&disk.Disk{})
	if e == api.OK {
		for _, a := range row() {
			do(v, a)
		}
	}
}
