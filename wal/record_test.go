package wal_test

import (
	"encoding/hex"
	"fmt"
	"math"
	"slices"
	"strings"
	"testing"

	"minstrel/api"
	"minstrel/code"
	"minstrel/wal"
)

// P21.3: a record of each kind, byte by byte; the sums are reckoned by zlib's crc32.
func TestBytes(t *testing.T) {
	b := newBench(t)
	at := 0
	must := func(a act, want string) {
		t.Helper()
		b.do(t, a)
		got, _ := b.d.Read("wal-0000000001")
		if s := hex.EncodeToString(got[at:]); s != strings.ReplaceAll(want, " ", "") {
			t.Fatalf("%s: %s, want %s", a, s, want)
		}
		at = len(got)
	}
	must(vote(3, 1), "00000020 a47a3257 0200000003 000000000000000000 000000000000000003 000000000000000001")
	must(command(3, "a"), "0000002b ef3b28de 0200000002 000000000000000001 0200000003 000000000000000003 000000000000000001 010000000161")
	must(none(3), "00000025 4ce5623d 0200000002 000000000000000001 0200000002 000000000000000003 000000000000000000")
	must(members(1<<63, 1, 64), "0000003c c1d7d320 0200000002 000000000000000001 0200000003 008000000000000000 000000000000000002 0200000002 000000000000000001 000000000000000040")
	must(cut(2), "00000017 27d07ef0 0200000002 000000000000000002 000000000000000002")
	b.do(t, install(api.Snap{Index: 1, Term: 3, Members: []int{2}, Sess: code.Number(5), State: code.Text("t")}))
	got, _ := b.d.Read("wal-0000000002")
	snapshot := "00000034 898fb535 0200000005 000000000000000001 000000000000000003 0200000001 000000000000000002 000000000000000005 010000000174"
	want := "0000004f bb08b34b 0200000002 000000000000000003 010000003c" + snapshot + "00000020 a47a3257 0200000003 000000000000000000 000000000000000003 000000000000000001"
	if s := hex.EncodeToString(got); s != strings.ReplaceAll(want, " ", "") {
		t.Fatalf("%s, want %s", s, want)
	}
}

// whole are files of a segment that has these bytes.
func whole(t *testing.T, b []byte) *wal.Wal {
	t.Helper()
	return opened(t, diskOf(t, file{"wal-0000000004", b}))
}

// reads holds a segment's bytes against what they should be read as, and how many of them should stay.
func reads(t *testing.T, b []byte, want words, stay int) {
	t.Helper()
	d := diskOf(t, file{"wal-0000000004", b})
	for range 2 {
		w := opened(t, d)
		mustTell(t, w, want)
		mustHave(t, d, file{"wal-0000000004", b[:stay]})
		if d.Fast("wal-0000000004") != stay {
			t.Fatal("not all stands fast")
		}
	}
}

// good is a row of acts that make one segment, with a snapshot ahead.
func good() []act {
	return []act{
		install(api.Snap{Index: 7, Term: 2, Members: []int{1, 3}, Sess: code.Text("s"), State: code.List()}),
		vote(3, 1), command(3, "a"), none(3), members(4, 1, 2, 64), cut(10), vote(5, 64), none(5), cut(8), none(6),
	}
}

// P21.3, P21.5: a segment that is cut at each byte, with nothing behind and with other bytes there.
func TestEachByte(t *testing.T) {
	acts := good()
	b := segmentBytes(acts...)
	whole := 0
	for n := range len(b) + 1 {
		if whole < len(acts) && n == len(segmentBytes(acts[:whole+1]...)) {
			whole++
		}
		want, stay := all(acts[:whole]...), len(segmentBytes(acts[:whole]...))
		reads(t, b[:n], want, stay)
		for _, tail := range []string{"\x00", "\xff", "\x00\x00\x00\x00\x00\x00\x00\x00\x00", strings.Repeat("\xff", 50), "wal"} {
			if n == len(b) || !strings.HasPrefix(tail, string(b[n])) {
				reads(t, slices.Concat(b[:n], []byte(tail)), want, stay)
			}
		}
	}
	if whole != len(acts) {
		t.Fatal(whole)
	}
}

// P21.3: a segment of which a byte is changed is read up to the record that it lies in.
func TestChangedByte(t *testing.T) {
	acts := good()
	b := segmentBytes(acts...)
	for n := range b {
		whole := 0
		for len(segmentBytes(acts[:whole+1]...)) <= n {
			whole++
		}
		want, stay := all(acts[:whole]...), len(segmentBytes(acts[:whole]...))
		for _, change := range []byte{1, 2, 16, 128, 255} {
			c := slices.Clone(b)
			c[n] ^= change
			reads(t, c, want, stay)
		}
	}
}

// P21.3: frames that are none of the records, or can't be done where they stand: they and what is behind are cut off.
func TestNoRecord(t *testing.T) {
	saved := txt(string(snapBytes(snapOf(9, 2))))
	none1 := entryBytes(api.Entry{Term: 1})
	after := func(acts ...act) []act { return append([]act{install(snapOf(5, 1)), vote(1, 2), none(1)}, acts...) }
	for i, c := range [][]byte{
		{}, {0}, {3}, num(0), num(1), num(3), txt(""), txt("x"), list(), list(num(0)), list(num(1)), list(num(2)), list(num(3)), list(list()), list(txt("")),
		list(num(0), num(1)), list(num(0), num(1), num(1), num(1)), list(num(0), num(1), num(65)), list(num(0), num(1), num(256)), list(num(0), num(1), num(1<<32)), list(num(0), num(1), num(1<<63)), list(num(0), num(1), num(math.MaxUint64)),
		list(num(0), txt("x"), num(1)), list(num(0), num(1), txt("x")), list(num(0), list(), num(1)), list(num(0), num(1), list()), list(num(0), list(num(1), num(1))),
		list(txt(""), num(1), num(1)), list(list(), num(1), num(1)), list(list(num(0)), num(1), num(1)),
		append(list(num(0), num(1), num(1)), 0), list(num(0), num(1), num(1))[1:], list(num(0), num(1), num(1))[:31],
		list(num(1), num(1)), list(num(1), txt("")), list(num(1), list()), list(num(1), none1, none1), list(num(1), none1, num(1)), list(num(1), num(1), num(0)), list(txt(""), none1), list(list(), none1),
		list(num(1), list(num(1), num(3))), list(num(1), list(num(1), num(0), num(0))), list(num(1), list(num(1), num(1))), list(num(1), list(num(1), num(1), txt(strings.Repeat("x", 1<<16+1)))), list(num(1), list(num(1), num(2), list())), list(num(1), list(num(1), num(2), list(num(2), num(1)))), list(num(1), list(num(1), num(2), list(num(65)))),
		list(num(2), num(5)), list(num(2), num(8)), list(num(2), num(0)), list(num(2), num(1<<32+6)), list(num(2), num(math.MaxUint64)), list(num(2), txt("")), list(num(2), list()), list(num(2), num(6), num(6)), list(txt(""), num(6)), list(num(2), list(num(6))),
		list(num(3), saved), list(num(3), txt(string(snapBytes(snapOf(5, 1))))), list(num(3), num(1)), list(num(3), txt("")), list(num(3), saved, num(1)), list(num(3), list(saved)),
		list(num(4), num(6)), list(num(4), none1), list(num(4), num(1), num(1)), list(num(4), saved), list(num(1<<32+2), num(6)), list(num(1<<32), num(1), num(1)), list(num(256+2), num(6)), list(num(math.MaxUint64), num(6)), list(num(1<<63+2), num(6)), list(num(6), num(2)),
	} {
		stay := len(segmentBytes(after()...))
		for _, behind := range [][]act{nil, {vote(9, 9)}, {none(1), cut(6)}} {
			b := slices.Concat(segmentBytes(after()...), frameOf(c), segmentBytes(behind...))
			reads(t, b, all(after()...), stay)
			if t.Failed() {
				t.Fatal(i)
			}
		}
	}
	// What stands there by itself: these can be done.
	for _, a := range []act{vote(0, 0), vote(math.MaxUint64, 64), none(0), command(0, strings.Repeat("x", 1<<16)), members(0, 64), cut(6), cut(7)} {
		b := segmentBytes(after(a)...)
		reads(t, b, all(after(a)...), len(b))
	}
}

// P21.3: a snapshot is the first record or none; it alone, if it is one that Save tells.
func TestSnapRecords(t *testing.T) {
	first := install(snapOf(3, 1))
	for _, ahead := range [][]act{{vote(0, 0)}, {none(1)}, {first}, {first, vote(1, 1)}, {none(1), cut(1)}, {first, none(1), none(1), none(1), cut(4)}} {
		for _, index := range []uint64{1, 2, 3, 4, 5, 6, 7, 1 << 62} {
			b := segmentBytes(append(slices.Clone(ahead), install(snapOf(index, 1)), vote(2, 2))...)
			reads(t, b, all(ahead...), len(segmentBytes(ahead...)))
		}
	}
	saved := string(snapBytes(snapOf(3, 1)))
	for _, c := range [][]byte{
		list(num(3)), list(num(3), num(3)), list(num(3), txt("")), list(num(3), txt(saved[1:])), list(num(3), txt(saved[:len(saved)-1])), list(num(3), txt(saved+"x")), list(num(3), txt(saved+saved)), list(num(3), txt(saved), txt(saved)), list(num(3), list(txt(saved))), list(num(3), txt(saved[8:])),
		list(num(3), txt(string(frameOf(list(num(1<<62+1), num(1), list(num(1)), num(0), num(0)))))), list(num(3), txt(string(frameOf(list(num(3), num(1), list(), num(0), num(0)))))),
		list(num(2), txt(saved)), list(num(1), txt(saved)), list(num(4), txt(saved)), list(num(1<<32+3), txt(saved)), list(txt(saved)), txt(saved),
	} {
		reads(t, slices.Concat(frameOf(c), segmentBytes(vote(1, 1))), words{}, 0)
	}
	for _, s := range []api.Snap{snapOf(1, 0), snapOf(1<<62, math.MaxUint64), snapOf(2, 2)} {
		b := segmentBytes(install(s), none(3), vote(7, 7))
		reads(t, b, all(install(s), none(3), vote(7, 7)), len(b))
	}
}

// P21.3: a snapshot of number 0 can't be installed, but is read, as it is one that Save tells, and the first.
func TestSnapOfNone(t *testing.T) {
	s := snapOf(0, 4)
	b := segmentBytes(install(s), none(3))
	w := whole(t, b)
	if base, term := w.Base(); base != 0 || term != 4 || w.Last() != 1 {
		t.Error(base, term, w.Last())
	}
	if got, is := w.Snap(); !is || string(snapBytes(got)) != string(snapBytes(s)) {
		t.Error(got, is)
	}
}

// P21.3: Cut's records are read with what there is where they stand.
func TestCutRecords(t *testing.T) {
	for _, base := range []uint64{0, 1, 9, 1 << 62} {
		var ahead []act
		if base > 0 {
			ahead = append(ahead, install(snapOf(base, 1)))
		}
		for count := range uint64(4) {
			for _, from := range []uint64{0, base - 1, base, base + 1, base + 2, base + 3, base + 4, base + 5, base + 1<<32 + 1, math.MaxUint64} {
				e, _ := all(ahead...).do(cut(from))
				b := segmentBytes(append(slices.Clone(ahead), cut(from), vote(1, 1))...)
				stay, want := len(b), all(append(slices.Clone(ahead), cut(from), vote(1, 1))...)
				if e != api.OK {
					stay, want = len(segmentBytes(ahead...)), all(ahead...)
				}
				reads(t, b, want, stay)
			}
			ahead = append(ahead, command(count, fmt.Sprint(count)))
		}
	}
}

// P21.3: an entry that would be number 4097 can't be done where it stands.
func TestMaxLogRecords(t *testing.T) {
	one := recordBytes(none(3))
	for _, ahead := range [][]act{nil, {install(snapOf(5, 2))}} {
		for _, count := range []int{4095, 4096, 4097, 4098} {
			b := slices.Concat(segmentBytes(ahead...), slices.Concat(slices.Repeat([][]byte{one}, count)...), recordBytes(vote(7, 7)))
			w := whole(t, b)
			base, _ := w.Base()
			want := uint64(7)
			if count > 4096 {
				want = 0
			}
			if w.Last() != base+uint64(min(count, 4096)) || w.Term() != want {
				t.Error(count, w.Last(), w.Term())
			}
		}
		full := slices.Concat(slices.Repeat([][]byte{one}, 4096)...)
		b := slices.Concat(full, recordBytes(cut(4096)), one, recordBytes(vote(1, 1)), one, recordBytes(vote(2, 2)))
		if w := whole(t, b); w.Last() != 4096 || w.Term() != 1 {
			t.Error(w.Last(), w.Term())
		}
	}
}
