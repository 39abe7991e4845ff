package snap_test

import (
	"math"
	"math/rand"
	"reflect"
	"slices"
	"strings"
	"testing"

	"minstrel/api"
	"minstrel/code"
	"minstrel/snap"
)

// mustTell holds EntryCell against a cell, field by field, and what FromEntry tells of that against the entry but for what plays no part.
func mustTell(t *testing.T, e api.Entry, want api.Cell) {
	t.Helper()
	if by, err := entryByWords(e); !alike(by, want) || err != api.OK {
		t.Fatal("by the words:", by, err)
	}
	got, err := snap.EntryCell(e)
	if !alike(got, want) || err != api.OK {
		t.Errorf("EntryCell(%.100v) = %.100v, %d", e, got, err)
	}
	if e.Kind != api.EntryCommand {
		e.Data = ""
	}
	if e.Kind != api.EntryMembers {
		e.Members = nil
	}
	mustRead(t, got, e)
}

// mustNotTell holds EntryCell against an error, beside which the cell is zero.
func mustNotTell(t *testing.T, e api.Entry, want api.Errno) {
	t.Helper()
	if _, err := entryByWords(e); err != want {
		t.Fatal("by the words:", err)
	}
	if got, err := snap.EntryCell(e); !reflect.DeepEqual(got, api.Cell{}) || err != want {
		t.Errorf("EntryCell(%.100v) = %.100v, %d, want %d", e, got, err, want)
	}
}

// mustRead holds FromEntry against an entry, field by field.
func mustRead(t *testing.T, c api.Cell, want api.Entry) {
	t.Helper()
	if got, e := snap.FromEntry(c); !alikeEntries(got, want) || e != api.OK {
		t.Errorf("FromEntry(%.100v) = %.100v, %d", c, got, e)
	}
}

// mustNotRead holds FromEntry against ErrForm, beside which the entry is zero.
func mustNotRead(t *testing.T, c api.Cell) {
	t.Helper()
	if got, e := snap.FromEntry(c); !reflect.DeepEqual(got, api.Entry{}) || e != api.ErrForm {
		t.Errorf("FromEntry(%.100v) = %.100v, %d", c, got, e)
	}
}

// holdRead holds FromEntry against the words.
func holdRead(t *testing.T, c api.Cell) api.Errno {
	t.Helper()
	e, err := fromByWords(c)
	if err != api.OK {
		mustNotRead(t, c)
		return err
	}
	mustRead(t, c, e)
	return err
}

// P19.2, P19.3: entries of each kind, there and back.
func TestEntry(t *testing.T) {
	for _, term := range []uint64{0, 1, 255, 1 << 32, 1<<62 + 1, 1 << 63, math.MaxUint64} {
		mustTell(t, api.Entry{Term: term}, many(num(term), num(0)))
		mustTell(t, api.Entry{Term: term, Kind: 1, Data: "x = 1"}, many(num(term), num(1), text("x = 1")))
		mustTell(t, api.Entry{Term: term, Kind: 2, Members: []int{1, 3, 64}}, many(num(term), num(2), many(num(1), num(3), num(64))))
	}
	for _, s := range []string{"", "a", "\x00", "\x00\xff\xc3(", strings.Repeat("\xff", 1<<8), strings.Repeat("x", 1<<16-1), strings.Repeat("\x00", 1<<16)} {
		mustTell(t, api.Entry{Term: 5, Kind: 1, Data: s}, many(num(5), num(1), text(s)))
	}
	for _, l := range [][]int{{1}, {64}, {1, 64}, upTo(1, 64), upTo(20, 30)} {
		mustTell(t, api.Entry{Term: 5, Kind: 2, Members: l}, many(num(5), num(2), nums(l...)))
	}
}

// P19.2, P19.3: fields that play no part, whatever is in them, are not told, and are empty behind it.
func TestEntryOtherFields(t *testing.T) {
	long := strings.Repeat("x", 1<<16+1)
	for _, data := range []string{"", "x", long} {
		for _, l := range [][]int{nil, {1, 2}, {2, 1}, {0}, upTo(1, 65)} {
			mustTell(t, api.Entry{Term: 3, Data: data, Members: l}, many(num(3), num(0)))
			mustTell(t, api.Entry{Term: 3, Kind: 1, Data: "y", Members: l}, many(num(3), num(1), text("y")))
			mustTell(t, api.Entry{Term: 3, Kind: 2, Data: data, Members: []int{4}}, many(num(3), num(2), nums(4)))
		}
	}
}

// P19.2: a kind that is none is ErrArg, whatever else there is.
func TestEntryNoKind(t *testing.T) {
	long := strings.Repeat("x", 1<<16+1)
	for _, k := range noKinds {
		mustNotTell(t, api.Entry{Kind: k}, api.ErrArg)
		mustNotTell(t, api.Entry{Term: 1, Kind: k, Data: "x", Members: []int{1, 2}}, api.ErrArg)
		mustNotTell(t, api.Entry{Term: 1, Kind: k, Data: long, Members: []int{2, 1}}, api.ErrArg)
	}
	for k := -300; k <= 300; k++ {
		if k < 0 || k > 2 {
			mustNotTell(t, api.Entry{Kind: k, Members: []int{1}}, api.ErrArg)
		}
	}
}

// P19.2: Data on both sides of MaxEntry: that of commands alone is looked at.
func TestEntryLong(t *testing.T) {
	for _, n := range []int{1<<16 + 1, 1<<16 + 2, 1 << 17, 1 << 20, 1<<20 + 1, 1 << 24} {
		s := strings.Repeat("x", n)
		mustNotTell(t, api.Entry{Term: 1, Kind: 1, Data: s}, api.ErrLong)
		mustNotTell(t, api.Entry{Term: 1, Kind: 1, Data: s, Members: []int{2, 1}}, api.ErrLong)
		mustNotTell(t, api.Entry{Term: 1, Kind: 2, Data: s}, api.ErrArg)
		mustNotRead(t, many(num(1), num(1), text(s)))
	}
	for _, n := range []int{0, 1, 1<<16 - 1, 1 << 16} {
		s := strings.Repeat("x", n)
		mustRead(t, many(num(1), num(1), text(s)), api.Entry{Term: 1, Kind: 1, Data: s})
	}
}

// P19.2: Members that are none are ErrArg, of EntryMembers alone.
func TestEntryMembers(t *testing.T) {
	for _, l := range [][]int{nil, {}, {0}, {-1}, {65}, {1, 65}, {0, 1}, {2, 2}, {3, 1}, {1, 3, 2}, {1 << 32}, {1<<32 + 1}, {math.MinInt + 1}, {math.MaxInt}, upTo(1, 65), upTo(0, 64)} {
		mustNotTell(t, api.Entry{Term: 1, Kind: 2, Members: l}, api.ErrArg)
		mustNotTell(t, api.Entry{Term: 1, Kind: 2, Members: l, Data: "x"}, api.ErrArg)
		mustNotRead(t, many(num(1), num(2), nums(l...)))
		mustTell(t, api.Entry{Term: 1, Kind: 1, Members: l}, many(num(1), num(1), text("")))
	}
}

// P19.2: cells that are almost an entry's: each part changed in each way.
func TestEntryAlmost(t *testing.T) {
	counts := map[api.Errno]int{}
	for _, e := range []api.Entry{{}, {Term: 1}, {Term: 2, Kind: 1}, {Term: math.MaxUint64, Kind: 1, Data: "x"}, {Term: 1, Kind: 2, Members: []int{1}}, {Term: 1 << 63, Kind: 2, Members: []int{2, 5, 64}}, {Kind: 2, Members: upTo(1, 64)}} {
		c, _ := entryByWords(e)
		if holdRead(t, c) != api.OK {
			t.Error(e)
		}
		everyChange(c, func(d api.Cell) { counts[holdRead(t, d)]++ })
	}
	if counts[api.OK] < 200 || counts[api.ErrForm] < 3000 {
		t.Error(counts)
	}
}

// P19.2: a few such cells by name, and cells that no entry has at all.
func TestEntryNoForm(t *testing.T) {
	x, m := text("x"), nums(1, 2)
	for _, c := range []api.Cell{
		{}, num(1), text(""), text("x"), many(), {K: 3}, {K: -1}, {K: 3, L: []api.Cell{num(1), num(0)}}, {K: 0, L: []api.Cell{num(1), num(0)}}, {K: 1, L: []api.Cell{num(1), num(0)}},
		many(num(1)), many(x), many(m), many(num(0), x), many(num(0), m), many(x, num(0)), many(m, num(0)),
		many(num(1), num(0), num(0)), many(num(1), num(0), x), many(num(1), num(0), m), many(num(1), num(0), many()), many(num(1), num(0), text("")), many(num(1), num(0), api.Cell{K: 3}),
		many(num(1), num(1)), many(num(1), num(1), num(5)), many(num(1), num(1), m), many(num(1), num(1), many()), many(num(1), num(1), many(x)), many(num(1), num(1), x, x), many(num(1), num(1), x, num(0)), many(num(1), num(1), api.Cell{K: 3, S: "x"}), many(num(1), num(1), api.Cell{S: "x"}),
		many(num(1), num(2)), many(num(1), num(2), num(1)), many(num(1), num(2), x), many(num(1), num(2), many()), many(num(1), num(2), many(x)), many(num(1), num(2), many(num(1), m)), many(num(1), num(2), m, m), many(num(1), num(2), m, x), many(num(1), num(2), api.Cell{K: 1, L: m.L}), many(num(1), num(2), many(api.Cell{K: 3, N: 1})), many(num(1), num(2), many(api.Cell{K: 1, N: 1})),
		many(num(1), num(3)), many(num(1), num(3), x), many(num(1), num(3), m), many(num(1), num(255), m), many(num(1), num(257), x), many(num(1), num(256)),
		many(num(1), num(1<<32)), many(num(1), num(1<<32+1), x), many(num(1), num(1<<32+2), m), many(num(1), num(math.MaxUint64)), many(num(1), num(1<<63)), many(num(1), num(1<<63+1), x),
		many(text("\x01"), num(0)), many(num(1), text("\x00")), many(num(1), text("\x01"), x), many(nums(1), num(0)), many(num(1), nums(0)), many(many(num(1), num(0))), many(api.Cell{K: 3, N: 1}, num(0)), many(num(1), api.Cell{K: 3}),
		many(num(0), num(1), num(1), x), many(num(1), num(0), num(1), num(0)),
	} {
		mustNotRead(t, c)
		if _, e := fromByWords(c); e != api.ErrForm {
			t.Fatal("by the words:", c)
		}
	}
	for _, n := range []uint64{0, 65, 1<<8 + 1, 1<<31 + 1, 1 << 32, 1<<32 + 1, 1<<32 + 64, 1 << 63, 1<<63 + 1, math.MaxUint64} {
		mustNotRead(t, many(num(1), num(2), many(num(n))))
		mustNotRead(t, many(num(1), num(2), many(num(1), num(n))))
		mustNotRead(t, many(num(1), num(2), many(num(n), num(64))))
	}
	mustNotRead(t, many(num(1), num(2), nums(slices.Repeat([]int{1}, 1<<16)...)))
	mustNotRead(t, many(num(1), num(2), nums(upTo(1, 1<<16)...)))
}

// P19.2: fields of a cell that its kind doesn't name play no part (P7.1).
func TestFromEntryOtherFields(t *testing.T) {
	for _, e := range []api.Entry{{Term: 1}, {Term: 2, Kind: 1, Data: "x"}, {Term: 3, Kind: 2, Members: []int{2, 5}}} {
		c, _ := entryByWords(e)
		mustRead(t, odd(c), e)
	}
}

// P19.2, P19.3: entries by chance, some of them wrong, there and back, also by bytes; and cells by chance.
func TestEntryByChance(t *testing.T) {
	for _, wrong := range []int{0, 10, 50} {
		m := maker{rand.New(rand.NewSource(int64(198 + wrong))), wrong}
		for range 20000 {
			e := m.entry()
			c, err := entryByWords(e)
			if err != api.OK {
				mustNotTell(t, e, err)
				continue
			}
			mustTell(t, e, c)
			b, _ := code.Encode(c)
			d, _ := code.Decode(b)
			holdRead(t, d)
		}
		counts := map[api.Errno]int{}
		for range 100000 {
			c := many(num(m.number()), num(uint64(m.Intn(4))))
			switch m.Intn(4) {
			case 0:
				c = m.cell(4)
			case 1:
				c.L = append(c.L, m.cell(1))
			case 2:
				c.L = append(c.L, nums(m.members()...))
			}
			counts[holdRead(t, c)]++
		}
		if counts[api.OK] < 10000 || counts[api.ErrForm] < 10000 {
			t.Error(counts)
		}
	}
}

// P19.2: FromEntry ends, of cells that hold the same ones over and over, or themselves, too.
func TestFromEntryEnds(t *testing.T) {
	twice := num(1)
	for range 1000 {
		twice = many(twice, twice)
	}
	itself := make([]api.Cell, 3)
	itself[0], itself[1], itself[2] = num(1), num(2), many(itself...)
	for _, c := range []api.Cell{twice, many(itself...), nested(num(1), 1<<16), many(num(1), num(2), twice), many(num(1), num(1), twice), many(num(1), twice), many(num(1), num(0), twice), many(num(1), num(2), many(itself...))} {
		mustNotRead(t, c)
	}
}
