package wal_test

import (
	"encoding/binary"
	"fmt"
	"hash/crc32"
	"math"
	"slices"
	"strings"
	"testing"

	"minstrel/api"
	"minstrel/code"
	"minstrel/disk"
	"minstrel/snap"
	"minstrel/wal"
)

// words is what a wal has by the chapter's words. Nothing that it has is changed: each act answers another one.
type words struct {
	term    uint64
	vote    int
	snaps   []api.Snap // the snapshot, or none
	entries []numbered
}

// numbered is an entry with its number.
type numbered struct {
	n uint64
	e api.Entry
}

// The kinds of acts.
const (
	doVote = iota
	doAppend
	doCut
	doInstall
	doSync
)

// act is something done to a wal.
type act struct {
	kind int
	n    uint64 // the term, or from which number on
	vote int
	e    api.Entry
	s    api.Snap
}

func vote(term uint64, vote int) act { return act{kind: doVote, n: term, vote: vote} }
func put(e api.Entry) act            { return act{kind: doAppend, e: e} }
func cut(from uint64) act            { return act{kind: doCut, n: from} }
func install(s api.Snap) act         { return act{kind: doInstall, s: s} }
func sync() act                      { return act{kind: doSync} }
func none(term uint64) act           { return put(api.Entry{Term: term}) }
func command(t uint64, s string) act { return put(api.Entry{Term: t, Kind: api.EntryCommand, Data: s}) }
func members(t uint64, l ...int) act {
	return put(api.Entry{Term: t, Kind: api.EntryMembers, Members: l})
}
func snapOf(index, t uint64) api.Snap { return api.Snap{Index: index, Term: t, Members: []int{1, 3}} }
func (a act) String() string {
	return fmt.Sprintf("%d: %d %d %.99v %.99v", a.kind, a.n, a.vote, a.e, a.s)
}

// base is the snapshot's number and term.
func (w words) base() (uint64, uint64) {
	for _, s := range w.snaps {
		return s.Index, s.Term
	}
	return 0, 0
}

func (w words) last() uint64 {
	last, _ := w.base()
	for _, x := range w.entries {
		last = max(last, x.n)
	}
	return last
}

// without is what it has without the entries of which a function says so.
func (w words) without(gone func(n uint64) bool) words {
	w.entries = slices.DeleteFunc(slices.Clone(w.entries), func(x numbered) bool { return gone(x.n) })
	return w
}

// do is what an act answers while the disk refuses nothing, and what there is behind it.
func (w words) do(a act) (api.Errno, words) {
	base, _ := w.base()
	switch a.kind {
	case doVote:
		if a.vote < 0 || a.vote > 64 {
			return api.ErrArg, w
		}
		w.term, w.vote = a.n, a.vote
	case doAppend:
		if _, e := snap.EntryCell(a.e); e != api.OK {
			return e, w
		}
		if len(w.entries) == 4096 {
			return api.ErrLong, w
		}
		w.entries = append(slices.Clip(w.entries), numbered{w.last() + 1, plain(a.e)})
	case doCut:
		if a.n <= base || a.n > w.last()+1 {
			return api.ErrArg, w
		}
		return api.OK, w.without(func(n uint64) bool { return n >= a.n })
	case doInstall:
		b, e := snap.Save(a.s)
		if e != api.OK {
			return e, w
		}
		if a.s.Index <= base {
			return api.ErrArg, w
		}
		// A frame of a list of 3 and a text has to hold it.
		if len(list(num(3), txt(string(b)))) > 1<<20 {
			return api.ErrLong, w
		}
		has := slices.ContainsFunc(w.entries, func(x numbered) bool { return x.n == a.s.Index && x.e.Term == a.s.Term })
		w = w.without(func(n uint64) bool { return !has || n <= a.s.Index })
		w.snaps = []api.Snap{a.s}
	}
	return api.OK, w
}

// all is what acts come to.
func all(acts ...act) words {
	var w words
	for _, a := range acts {
		_, w = w.do(a)
	}
	return w
}

// plain is an entry without what plays no part.
func plain(e api.Entry) api.Entry {
	switch e.Kind {
	case api.EntryCommand:
		e.Members = nil
	case api.EntryMembers:
		e.Data, e.Members = "", slices.Clone(e.Members)
	default:
		e.Data, e.Members = "", nil
	}
	return e
}

// around are numbers to ask for entries by.
func around(base, last uint64) []uint64 {
	l := []uint64{0, 1, 2, base - 1, base, last + 1, last + 2, base + 1<<32, last + 1<<63, math.MaxInt64, math.MaxUint64}
	for n := base + 1; n <= last && n <= base+10; n++ {
		l = append(l, n)
	}
	for n := max(last, 10) - 10; n <= last; n++ {
		l = append(l, n)
	}
	return l
}

// tell is what it has, as a text.
func (w words) tell() string {
	base, term := w.base()
	out := fmt.Sprintf("%d %d, base %d %d, last %d", w.term, w.vote, base, term, w.last())
	for _, s := range w.snaps {
		out += " snapshot " + string(snapBytes(s))
	}
	for _, n := range around(base, w.last()) {
		for _, x := range w.entries {
			if x.n == n {
				out += fmt.Sprintf(" %d: %d %d %q %v", n, x.e.Term, x.e.Kind, x.e.Data, x.e.Members)
			}
		}
	}
	return out
}

// told is what a wal tells, as the same text.
func told(t *testing.T, w *wal.Wal) string {
	t.Helper()
	base, term := w.Base()
	out := fmt.Sprintf("%d %d, base %d %d, last %d", w.Term(), w.Vote(), base, term, w.Last())
	s, is := w.Snap()
	if is {
		out += " snapshot " + string(snapBytes(s))
	} else if !empty(s) {
		t.Fatalf("no snapshot, but %.200v", s)
	}
	for _, n := range around(base, w.Last()) {
		e, is := w.Entry(n)
		if is {
			out += fmt.Sprintf(" %d: %d %d %q %v", n, e.Term, e.Kind, e.Data, e.Members)
		} else if e.Term != 0 || e.Kind != 0 || e.Data != "" || e.Members != nil {
			t.Fatalf("no entry %d, but %.200v", n, e)
		}
	}
	return out
}

// empty is whether a snapshot is the zero one.
func empty(s api.Snap) bool {
	return s.Index == 0 && s.Term == 0 && s.Members == nil && code.Same(s.Sess, api.Cell{}) && code.Same(s.State, api.Cell{})
}

// Bytes of cells, frames and records, by chapters 6 and 7, reckoned apart from the program.

func num(n uint64) []byte { return binary.BigEndian.AppendUint64([]byte{0}, n) }
func txt(s string) []byte {
	return append(binary.BigEndian.AppendUint32([]byte{1}, uint32(len(s))), s...)
}
func list(parts ...[]byte) []byte {
	return append(binary.BigEndian.AppendUint32([]byte{2}, uint32(len(parts))), slices.Concat(parts...)...)
}
func frameOf(b []byte) []byte {
	size := binary.BigEndian.AppendUint32(nil, uint32(len(b)))
	sum := crc32.ChecksumIEEE(slices.Concat(size, b))
	return slices.Concat(binary.BigEndian.AppendUint32(size, sum), b)
}

func cellBytes(c api.Cell) []byte {
	switch c.K {
	case api.CellNumber:
		return num(c.N)
	case api.CellText:
		return txt(c.S)
	}
	parts := make([][]byte, len(c.L))
	for i, x := range c.L {
		parts[i] = cellBytes(x)
	}
	return list(parts...)
}

func membersBytes(l []int) []byte {
	parts := make([][]byte, len(l))
	for i, n := range l {
		parts[i] = num(uint64(n))
	}
	return list(parts...)
}

func snapBytes(s api.Snap) []byte {
	return frameOf(list(num(s.Index), num(s.Term), membersBytes(s.Members), cellBytes(s.Sess), cellBytes(s.State)))
}

func entryBytes(e api.Entry) []byte {
	switch e.Kind {
	case api.EntryCommand:
		return list(num(e.Term), num(1), txt(e.Data))
	case api.EntryMembers:
		return list(num(e.Term), num(2), membersBytes(e.Members))
	}
	return list(num(e.Term), num(0))
}

// recordBytes is the record of an act.
func recordBytes(a act) []byte {
	switch a.kind {
	case doVote:
		return frameOf(list(num(0), num(a.n), num(uint64(a.vote))))
	case doAppend:
		return frameOf(list(num(1), entryBytes(a.e)))
	case doCut:
		return frameOf(list(num(2), num(a.n)))
	case doInstall:
		return frameOf(list(num(3), txt(string(snapBytes(a.s)))))
	}
	return nil
}

// segmentBytes are the records of acts, one behind the other.
func segmentBytes(acts ...act) []byte {
	var b []byte
	for _, a := range acts {
		b = append(b, recordBytes(a)...)
	}
	return b
}

// laidAnew are the acts of which a segment has the records that Install has laid.
func (w words) laidAnew() []act {
	var acts []act
	for _, s := range w.snaps {
		acts = append(acts, install(s))
	}
	acts = append(acts, vote(w.term, w.vote))
	for _, x := range w.entries {
		acts = append(acts, put(x.e))
	}
	return acts
}

func segment(number uint64) string { return fmt.Sprintf("wal-%010d", number) }

// do does an act on a wal.
func do(w *wal.Wal, a act) api.Errno {
	switch a.kind {
	case doVote:
		return w.SetVote(a.n, a.vote)
	case doAppend:
		return w.Append(a.e)
	case doCut:
		return w.Cut(a.n)
	case doInstall:
		return w.Install(a.s)
	}
	return w.Sync()
}

// bench is a wal on a disk, and what by the chapter's words there should be.
type bench struct {
	d      *disk.Disk
	w      *wal.Wal
	has    words
	number uint64 // of the segment; 0: there is none
	bytes  []byte // the segment's
	fast   int
}

func newDisk(t *testing.T, size int) *disk.Disk {
	t.Helper()
	d, e := disk.New(size)
	if e != api.OK {
		t.Fatal(e)
	}
	return d
}

// opened is a wal of a disk that refuses nothing.
func opened(t *testing.T, d *disk.Disk) *wal.Wal {
	t.Helper()
	w, e := wal.Open(d)
	if w == nil || e != api.OK {
		t.Fatal("Open:", w, e)
	}
	return w
}

func newBench(t *testing.T) *bench {
	t.Helper()
	d := newDisk(t, 1<<26)
	return &bench{d: d, w: opened(t, d)}
}

// do holds acts against what should come of them.
func (b *bench) do(t *testing.T, acts ...act) {
	t.Helper()
	for _, a := range acts {
		want, has := b.has.do(a)
		if e := do(b.w, a); e != want {
			t.Fatalf("%.300s: answered %d, want %d", a, e, want)
		}
		b.has = has
		if want == api.OK {
			b.lay(a)
		}
		b.hold(t)
	}
}

// lay is what an act that is OK does on the disk.
func (b *bench) lay(a act) {
	switch a.kind {
	case doInstall:
		b.number++
		b.bytes = segmentBytes(b.has.laidAnew()...)
		b.fast = len(b.bytes)
	case doSync:
		b.fast = len(b.bytes)
	default:
		b.number = max(b.number, 1)
		b.bytes = append(b.bytes, recordBytes(a)...)
	}
}

// hold holds what the wal tells, and what lies on the disk, against what should.
func (b *bench) hold(t *testing.T) {
	t.Helper()
	if got, want := told(t, b.w), b.has.tell(); got != want {
		t.Fatalf("told\n%.1000q, want\n%.1000q", got, want)
	}
	if b.number == 0 {
		mustHave(t, b.d)
		return
	}
	mustHave(t, b.d, file{segment(b.number), b.bytes})
	if n := b.d.Fast(segment(b.number)); n != b.fast {
		t.Fatalf("%d bytes stand fast, want %d", n, b.fast)
	}
}

// file is what lies on a disk.
type file struct {
	name  string
	bytes []byte
}

// mustHave holds a disk's files, which rise.
func mustHave(t *testing.T, d *disk.Disk, files ...file) {
	t.Helper()
	var names []string
	for _, f := range files {
		names = append(names, f.name)
		if b, is := d.Read(f.name); !is || string(b) != string(f.bytes) {
			t.Fatalf("%s has %v, %.300x, want %.300x", f.name, is, b, f.bytes)
		}
	}
	if !slices.Equal(d.Names(), names) {
		t.Fatal("files:", d.Names(), "want", names)
	}
}

// mustTell holds what a wal tells.
func mustTell(t *testing.T, w *wal.Wal, want words) {
	t.Helper()
	if got, want := told(t, w), want.tell(); got != want {
		t.Fatalf("told\n%.1000q, want\n%.1000q", got, want)
	}
}

// must does acts on a wal, all of which are OK.
func must(t *testing.T, w *wal.Wal, acts ...act) {
	t.Helper()
	for _, a := range acts {
		if e := do(w, a); e != api.OK {
			t.Fatalf("%.300s: answered %d", a, e)
		}
	}
}

// diskOf is a disk with files that stand fast.
func diskOf(t *testing.T, files ...file) *disk.Disk {
	t.Helper()
	d := newDisk(t, 1<<26)
	for _, f := range files {
		if d.Append(f.name, f.bytes) != api.OK || d.Sync(f.name) != api.OK {
			t.Fatal("laying", f.name)
		}
	}
	return d
}

// row is a row of acts, all of which are OK, with all kinds behind all kinds.
func row() []act {
	return []act{
		vote(3, 1), command(3, "a"), sync(), none(3), members(4, 1, 2, 64), vote(5, 64), cut(3), command(5, strings.Repeat("b", 30)), none(5),
		install(snapOf(2, 3)), command(6, ""), cut(5), members(7, 9), sync(), sync(), none(7), vote(7, 0),
		install(api.Snap{Index: 5, Term: 7, Members: []int{9}, Sess: code.Text("s"), State: code.List(code.Number(7), code.List())}),
		install(snapOf(100, 8)), none(8), none(9), cut(101), vote(9, 2), command(9, "c"), sync(), cut(102), install(snapOf(101, 9)), vote(10, 3), none(10),
	}
}

// behindEach are what a row of acts comes to behind each of them, and ahead of all.
func behindEach(acts []act) []words {
	l := []words{{}}
	for i := range acts {
		l = append(l, all(acts[:i+1]...))
	}
	return l
}
