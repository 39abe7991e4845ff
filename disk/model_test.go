package disk_test

import (
	"math/rand"
	"slices"
	"strings"
	"testing"

	"minstrel/api"
	"minstrel/disk"
)

// laid is a file by the chapter's words: its name, its bytes, how many of them stand fast.
type laid struct {
	name, bytes string
	fast        int
}

// words is a disk by the chapter's words. Nothing that it has is changed: each act answers another one.
type words struct {
	size       int
	files      []laid // rising
	cut, calls int    // what Cut was handed, and how many calls there were since; below 0: never
}

func newByWords(size int) words { return words{size: size, cut: -1} }

// The kinds of acts: calls that ask for the power, and those that don't.
const (
	doAppend = iota
	doSync
	doTruncate
	doRename
	doRemove
	doCut
	doCrash
)

// act is something done to a disk.
type act struct {
	kind     int
	name, to string
	n        int
	b        string
}

func add(name, b string) act            { return act{kind: doAppend, name: name, b: b} }
func sync(name string) act              { return act{kind: doSync, name: name} }
func truncate(name string, n int) act   { return act{kind: doTruncate, name: name, n: n} }
func rename(from, to string) act        { return act{kind: doRename, name: from, to: to} }
func remove(name string) act            { return act{kind: doRemove, name: name} }
func cut(n int) act                     { return act{kind: doCut, n: n} }
func crash(keep int, tail string) act   { return act{kind: doCrash, n: keep, b: tail} }
func do(d *disk.Disk, a act) api.Errno  { return doBytes(d, a, []byte(a.b)) }
func (a act) asks() bool                { return a.kind < doCut }
func nameByWords(s string) bool         { return len(s) >= 1 && len(s) <= 32 && strings.Trim(s, letters) == "" }
func (w words) gone() bool              { return w.cut >= 0 && w.calls > w.cut }
func (w words) with(files []laid) words { w.files = files; return w }
func sorted(files ...laid) []laid       { slices.SortFunc(files, byName); return files }
func byName(a, b laid) int              { return strings.Compare(a.name, b.name) }
func (w words) without(s string) []laid { return slices.DeleteFunc(slices.Clone(w.files), is(s)) }
func is(s string) func(laid) bool       { return func(f laid) bool { return f.name == s } }
func part(s string, n int) string       { return s[:max(0, min(n, len(s)))] }
func (w words) find(s string) (laid, bool) {
	if i := slices.IndexFunc(w.files, is(s)); i >= 0 {
		return w.files[i], true
	}
	return laid{}, false
}

const letters = "abcdefghijklmnopqrstuvwxyz0123456789-"

// used is how many bytes all files have.
func used(files []laid) int {
	n := 0
	for _, f := range files {
		n += len(f.bytes)
	}
	return n
}

// doBytes does an act on a disk, with these very bytes.
func doBytes(d *disk.Disk, a act, b []byte) api.Errno {
	switch a.kind {
	case doAppend:
		return d.Append(a.name, b)
	case doSync:
		return d.Sync(a.name)
	case doTruncate:
		return d.Truncate(a.name, a.n)
	case doRename:
		return d.Rename(a.name, a.to)
	case doRemove:
		return d.Remove(a.name)
	case doCut:
		d.Cut(a.n)
	case doCrash:
		d.Crash(a.n, b)
	}
	return api.OK
}

// do is what an act answers, and the disk behind it.
func (w words) do(a act) (api.Errno, words) {
	switch {
	case a.kind == doCut && !w.gone():
		w.cut, w.calls = max(a.n, -1), 0
		return api.OK, w
	case a.kind == doCut:
		return api.OK, w
	case a.kind == doCrash:
		return api.OK, w.crash(a.n, a.b)
	}
	e, behind := w.powered(a)
	w.calls++
	behind.calls++
	switch {
	case !w.gone():
		return e, behind
	case w.calls == w.cut+1 && a.kind == doAppend && e == api.OK:
		return api.ErrDisk, behind
	}
	return api.ErrDisk, w
}

// powered is what an act answers while there is power, and the disk behind it.
func (w words) powered(a act) (api.Errno, words) {
	f, there := w.find(a.name)
	others := w.without(a.name)
	switch {
	case a.kind == doAppend && !nameByWords(a.name), a.kind == doRename && !nameByWords(a.to):
		return api.ErrArg, w
	case a.kind == doAppend && used(w.files)+len(a.b) > w.size:
		return api.ErrDisk, w
	case a.kind == doAppend:
		return api.OK, w.with(sorted(append(others, laid{a.name, f.bytes + a.b, f.fast})...))
	case !there:
		return api.ErrNone, w
	case a.kind == doSync:
		return api.OK, w.with(sorted(append(others, laid{f.name, f.bytes, len(f.bytes)})...))
	case a.kind == doTruncate && (a.n < 0 || a.n > len(f.bytes)):
		return api.ErrArg, w
	case a.kind == doTruncate:
		return api.OK, w.with(sorted(append(others, laid{f.name, f.bytes[:a.n], min(f.fast, a.n)})...))
	case a.kind == doRename:
		return api.OK, w.with(sorted(append(w.with(others).without(a.to), laid{a.to, f.bytes, f.fast})...))
	}
	return api.OK, w.with(others)
}

// crash is the disk behind a crash.
func (w words) crash(keep int, tail string) words {
	kept := slices.Clone(w.files)
	for i, f := range kept {
		kept[i].bytes = f.bytes[:f.fast] + part(f.bytes[f.fast:], keep)
	}
	for i, f := range w.files {
		if f.fast < len(f.bytes) {
			kept[i].bytes += part(tail, w.size-used(kept))
		}
		kept[i].fast = len(kept[i].bytes)
	}
	return words{size: w.size, files: kept, cut: -1}
}

// made is an empty disk.
func made(t *testing.T, size int) *disk.Disk {
	t.Helper()
	d, e := disk.New(size)
	if d == nil || e != api.OK {
		t.Fatalf("New(%d) = %v, %d", size, d, e)
	}
	return d
}

// must does acts that are OK.
func must(t *testing.T, d *disk.Disk, acts ...act) {
	t.Helper()
	for _, a := range acts {
		if e := do(d, a); e != api.OK {
			t.Errorf("%.200v = %d", a, e)
		}
	}
}

// mustNot does an act that is refused, behind which there are these files still.
func mustNot(t *testing.T, d *disk.Disk, want api.Errno, a act, files ...laid) {
	t.Helper()
	if e := do(d, a); e != want {
		t.Errorf("%.200v = %d, want %d", a, e, want)
	}
	mustHave(t, d, files...)
}

// mustHave holds all that a disk tells against files, which are told rising.
func mustHave(t *testing.T, d *disk.Disk, files ...laid) {
	t.Helper()
	names := []string{}
	for _, f := range files {
		names = append(names, f.name)
		b, is := d.Read(f.name)
		if string(b) != f.bytes || !is || d.Fast(f.name) != f.fast {
			t.Errorf("%s: Read = %.80q, %v, Fast = %d, want %.80q, %d", f.name, b, is, d.Fast(f.name), f.bytes, f.fast)
		}
	}
	if got := d.Names(); !slices.Equal(got, names) {
		t.Errorf("Names = %.200q, want %.200q", got, names)
	}
	if got := d.Used(); got != used(files) {
		t.Errorf("Used = %d, want %d", got, used(files))
	}
}

// mustNotHave holds what a disk tells of a name that no file has.
func mustNotHave(t *testing.T, d *disk.Disk, names ...string) {
	t.Helper()
	for _, s := range names {
		if b, is := d.Read(s); len(b) != 0 || is || d.Fast(s) != 0 {
			t.Errorf("%q: Read = %q, %v, Fast = %d", s, b, is, d.Fast(s))
		}
	}
}

// hold does acts on a disk and by the words, behind each of which both tell the same; of names that no file has, too.
func hold(t *testing.T, d *disk.Disk, w words, acts ...act) words {
	t.Helper()
	for i, a := range acts {
		want, behind := w.do(a)
		if e := do(d, a); e != want {
			t.Fatalf("%d of %.100v: %d, want %d", i, acts, e, want)
		}
		w = behind
		mustHave(t, d, w.files...)
		for _, s := range []string{a.name, a.to, "none", ""} {
			if _, there := w.find(s); !there {
				mustNotHave(t, d, s)
			}
		}
		if t.Failed() {
			t.Fatalf("behind %d of %.100v", i, acts)
		}
	}
	return w
}

// maker makes acts by chance.
type maker struct {
	*rand.Rand
	names  []string
	length int // of what is laid, at most
	calm   int // the greater, the fewer crashes and cuts
}

func (m maker) one() string  { return m.names[m.Intn(len(m.names))] }
func (m maker) text() string { return m.letters(m.Intn(m.length + 1)) }

func (m maker) letters(n int) string {
	b := make([]byte, n)
	m.Read(b)
	return string(b)
}

func (m maker) act() act {
	if m.Intn(m.calm) == 0 {
		return crash(m.Intn(m.length+3)-2, m.text())
	}
	if m.Intn(m.calm) == 0 {
		return cut(m.Intn(20) - 2)
	}
	switch m.Intn(8) {
	case 0:
		return sync(m.one())
	case 1:
		return truncate(m.one(), m.Intn(2*m.length+3)-2)
	case 2:
		return rename(m.one(), m.one())
	case 3:
		if m.Intn(2) == 0 {
			return remove(m.one())
		}
	}
	return add(m.one(), m.text())
}

func (m maker) acts(n int) []act {
	all := make([]act, n)
	for i := range all {
		all[i] = m.act()
	}
	return all
}
