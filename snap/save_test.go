package snap_test

import (
	"bytes"
	"encoding/hex"
	"math"
	"math/rand"
	"slices"
	"testing"

	"minstrel/api"
	"minstrel/snap"
)

// example is a small snapshot, and exampleBytes what Save tells of it, reckoned apart from the program: how many, the sum, the list of five.
func example() api.Snap {
	return api.Snap{Index: 7, Term: 2, Members: []int{1, 64}, Sess: nums(1), State: text("x")}
}

const exampleBytes = "00000042" + "4a741ec4" +
	"0200000005" +
	"000000000000000007" +
	"000000000000000002" +
	"0200000002" + "000000000000000001" + "000000000000000040" +
	"0200000001" + "000000000000000001" +
	"0100000001" + "78"

// mustSave holds Save against bytes, and against the words.
func mustSave(t *testing.T, s api.Snap) []byte {
	t.Helper()
	want, e := saveByWords(s)
	if e != api.OK {
		t.Fatal("by the words:", e)
	}
	got, e := snap.Save(s)
	if !bytes.Equal(got, want) || e != api.OK {
		t.Errorf("Save = %.80x.., of %d bytes, %d, want %.80x.., of %d", got, len(got), e, want, len(want))
	}
	return want
}

// mustNotSave holds Save against an error, beside which nothing is told.
func mustNotSave(t *testing.T, s api.Snap, want api.Errno) {
	t.Helper()
	if _, e := saveByWords(s); e != want {
		t.Fatal("by the words:", e, "want", want)
	}
	if got, e := snap.Save(s); len(got) != 0 || e != want {
		t.Errorf("Save of %d, %d, %v = %d bytes, %d, want none, %d", s.Index, s.Term, s.Members, len(got), e, want)
	}
}

// P19.1: the bytes of a small snapshot.
func TestSave(t *testing.T) {
	want, _ := hex.DecodeString(exampleBytes)
	if got, e := snap.Save(example()); !bytes.Equal(got, want) || e != api.OK {
		t.Errorf("%x, %d", got, e)
	}
	mustSave(t, example())
	// The zero cell is the number 0.
	want, _ = hex.DecodeString("00000037" + "00000000" + "0200000005" + "000000000000000000" + "000000000000000000" + "0200000001" + "000000000000000003" + "000000000000000000" + "000000000000000000")
	if got := mustSave(t, api.Snap{Members: []int{3}}); !bytes.Equal(got[8:], want[8:]) || !bytes.Equal(got[:4], want[:4]) {
		t.Errorf("%x", got)
	}
}

// P19.1: each part of the list, with all kinds of things in it.
func TestSaveParts(t *testing.T) {
	numbers := []uint64{0, 1, 255, 256, 1 << 31, 1 << 32, 1<<53 + 1, 1<<62 - 1, 1 << 62}
	for _, n := range numbers {
		s := example()
		s.Index = n
		mustSave(t, s)
	}
	for _, n := range append(numbers, 1<<62+1, 1<<63, 1<<63+1, math.MaxUint64) {
		s := example()
		s.Term = n
		mustSave(t, s)
	}
	for _, l := range [][]int{{1}, {64}, {1, 2, 3}, upTo(1, 64), upTo(30, 40)} {
		s := example()
		s.Members = l
		mustSave(t, s)
	}
	for _, c := range []api.Cell{{}, num(math.MaxUint64), text(""), text("\x00\xff\xc3("), many(), many(many(), text("a")), nested(num(1), 63), nested(many(), 62), odd(many(num(1), many(text("a"))))} {
		s := example()
		s.Sess = c
		mustSave(t, s)
		s.State = c
		mustSave(t, s)
		s.Sess = num(5)
		mustSave(t, s)
	}
}

// P19.1: Members that are none are ErrArg.
func TestSaveMembers(t *testing.T) {
	for _, l := range [][]int{nil, {}, {0}, {-1}, {65}, {1, 65}, {0, 1}, {2, 2}, {3, 1}, {1, 3, 2}, {1 << 32}, {1<<32 + 1}, {math.MinInt}, upTo(1, 65)} {
		s := example()
		s.Members = l
		mustNotSave(t, s, api.ErrArg)
	}
}

// P19.1: Index on both sides of MaxIndex.
func TestSaveIndex(t *testing.T) {
	for _, n := range []uint64{1<<62 + 1, 1<<62 + 2, 1 << 63, 1<<63 - 1, 1<<63 + 1, math.MaxUint64} {
		s := example()
		s.Index = n
		mustNotSave(t, s, api.ErrLong)
	}
}

// P19.1: Sess and State that can't be Encoded: of a kind that is none, in too many lists (the snapshot's own is one).
func TestSaveCells(t *testing.T) {
	hold := func(c api.Cell, want api.Errno) {
		t.Helper()
		s := example()
		s.Sess = c
		mustNotSave(t, s, want)
		s.State = c
		mustNotSave(t, s, want)
		s.Sess = num(5)
		mustNotSave(t, s, want)
	}
	for _, k := range noKinds {
		hold(api.Cell{K: k}, api.ErrArg)
		hold(api.Cell{K: k, N: 1, S: "a", L: []api.Cell{num(1)}}, api.ErrArg)
		hold(many(num(1), many(text("a"), api.Cell{K: k})), api.ErrArg)
		hold(nested(api.Cell{K: k}, 63), api.ErrArg)
	}
	for _, c := range []api.Cell{num(1), text("a"), {K: 3}, many()} {
		hold(nested(c, 64), api.ErrLong)
		hold(nested(c, 65), api.ErrLong)
		hold(nested(c, 1000), api.ErrLong)
	}
	hold(nested(many(), 63), api.ErrLong)
	hold(textOf(1<<20), api.ErrLong)
	hold(textOf(1<<24), api.ErrLong)
}

// exact are snapshots whose list has just so many bytes, each in another way.
func exact(n int) []*api.Snap {
	all := make([]*api.Snap, 6)
	for i := range all {
		s := example()
		all[i] = &s
	}
	fill := func(s *api.Snap, into *api.Cell, in int) {
		*into = nested(text(""), in)
		*into = nested(textOf(n-len(bytesOf(snapCell(*s)))), in)
	}
	fill(all[0], &all[0].Sess, 0)
	fill(all[1], &all[1].State, 0)
	all[2].Members = upTo(1, 64)
	fill(all[2], &all[2].State, 63)
	all[3].Sess = textOf(1 << 19)
	fill(all[3], &all[3].State, 1)
	all[4].State = many(slices.Repeat([]api.Cell{num(3)}, 1<<16)...)
	fill(all[4], &all[4].Sess, 3)
	*all[5] = api.Snap{Index: 1 << 62, Term: math.MaxUint64, Members: []int{5}, Sess: many()}
	fill(all[5], &all[5].State, 0)
	return all
}

// P19.1, P19.3: a list of MaxBytes bytes is allowed (its frame has 8 more), one byte more is not.
func TestSaveLong(t *testing.T) {
	for _, n := range []int{1<<20 - 1, 1 << 20} {
		for _, s := range exact(n) {
			if len(bytesOf(snapCell(*s))) != n {
				t.Fatal(len(bytesOf(snapCell(*s))))
			}
			b := mustSave(t, *s)
			if len(b) != n+8 {
				t.Error(len(b))
			}
			if got, e := snap.Load(b); !alikeSnaps(got, *s) || e != api.OK {
				t.Error(n, e)
			}
		}
	}
	for _, more := range []int{1, 2, 5, 8, 9, 16} {
		for _, s := range exact(1<<20 + more) {
			mustNotSave(t, *s, api.ErrLong)
		}
	}
}

// P19.1: of several errors the one that comes first: Members, Index, then what is met first in the list.
func TestSaveFirstError(t *testing.T) {
	bad, deep, long := api.Cell{K: 3}, nested(num(1), 64), textOf(1<<20)
	great := uint64(1<<62 + 1)
	for _, c := range []struct {
		s    api.Snap
		want api.Errno
	}{
		{api.Snap{Index: great, Members: []int{0}}, api.ErrArg},
		{api.Snap{Index: great, Members: []int{1}, Sess: bad}, api.ErrLong},
		{api.Snap{Index: great, Members: []int{2, 1}, Sess: long, State: deep}, api.ErrArg},
		{api.Snap{Members: nil, Sess: long, State: deep}, api.ErrArg},
		{api.Snap{Members: []int{1}, Sess: bad, State: deep}, api.ErrArg},
		{api.Snap{Members: []int{1}, Sess: bad, State: long}, api.ErrArg},
		{api.Snap{Members: []int{1}, Sess: deep, State: bad}, api.ErrLong},
		{api.Snap{Members: []int{1}, Sess: long, State: bad}, api.ErrLong},
		{api.Snap{Members: []int{1}, Sess: textOf(1 << 19), State: many(bad, textOf(1<<19))}, api.ErrArg},
		{api.Snap{Members: []int{1}, Sess: textOf(1 << 19), State: many(textOf(1<<19), bad)}, api.ErrLong},
		{api.Snap{Members: []int{1}, Sess: many(many(deep), bad)}, api.ErrLong},
		{api.Snap{Members: []int{1}, Sess: many(many(bad), deep)}, api.ErrArg},
	} {
		mustNotSave(t, c.s, c.want)
	}
}

// P19.1, P19.3: snapshots by chance, some of them wrong.
func TestSaveByChance(t *testing.T) {
	for _, wrong := range []int{0, 20, 100} {
		m := maker{rand.New(rand.NewSource(int64(191 + wrong))), wrong}
		counts := map[api.Errno]int{}
		for range 10000 {
			s := m.snap()
			_, e := saveByWords(s)
			counts[e]++
			if e != api.OK {
				mustNotSave(t, s, e)
				continue
			}
			b := mustSave(t, s)
			if got, e := snap.Load(b); !alikeSnaps(got, s) || e != api.OK {
				t.Errorf("Load of Save of %v = %v, %d", s, got, e)
			}
		}
		if counts[api.OK] < 1000 || wrong > 0 && (counts[api.ErrArg] < 100 || counts[api.ErrLong] < 50) {
			t.Error(wrong, counts)
		}
	}
}

// P19.1: Save ends, of cells that hold the same ones over and over, or themselves, too.
func TestSaveEnds(t *testing.T) {
	twice := num(1)
	for range 62 {
		twice = many(twice, twice)
	}
	itself := make([]api.Cell, 3)
	itself[1] = many(itself...)
	for _, c := range []api.Cell{twice, many(itself...), nested(num(1), 1<<16)} {
		for _, s := range []api.Snap{{Members: []int{1}, Sess: c}, {Members: []int{1}, State: c}, {Members: []int{1}, Sess: c, State: c}} {
			if got, e := snap.Save(s); len(got) != 0 || e != api.ErrLong {
				t.Error(len(got), e)
			}
		}
	}
}
