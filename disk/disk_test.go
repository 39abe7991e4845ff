package disk_test

import (
	"math"
	"math/rand"
	"slices"
	"strings"
	"testing"

	"minstrel/api"
	"minstrel/disk"
)

// P20.1: New of sizes on both sides of 0 and of 2^26.
func TestNew(t *testing.T) {
	for _, size := range []int{math.MinInt, -1 << 31, -1<<31 + 5, -(1 << 26), -2, -1, 1<<26 + 1, 1<<26 + 2, 1 << 27, 1<<31 - 1, 1 << 31, 1 << 32, 1<<32 + 5, math.MaxInt} {
		if d, e := disk.New(size); d != nil || e != api.ErrArg {
			t.Errorf("New(%d) = %v, %d", size, d, e)
		}
	}
	for _, size := range []int{0, 1, 2, 10, 1 << 16, 1<<26 - 1, 1 << 26} {
		d := made(t, size)
		mustHave(t, d)
		mustNotHave(t, d, "a", "", "-")
		whole := strings.Repeat("x", size)
		mustNot(t, d, api.ErrDisk, add("a", whole+"x"))
		must(t, d, add("a", whole))
		mustNot(t, d, api.ErrDisk, add("b", "x"), laid{"a", whole, 0})
		must(t, d, sync("a"), add("b", ""))
		mustHave(t, d, laid{"a", whole, size}, laid{"b", "", 0})
	}
}

// P20.1: what is a name, of Append and of Rename's to.
func TestName(t *testing.T) {
	long := strings.Repeat("x", 33)
	good := []string{"a", "z", "m", "0", "9", "5", "-", "--", "wal-0000000001", "new", "-a-", "0a", long[:31], long[:32], strings.Repeat("-", 32), "abcdefghijklmnopqrstuvwxyz", "0123456789"}
	bad := []string{"", long, long + "x", strings.Repeat("x", 64), strings.Repeat("x", 256+5), strings.Repeat("x", 1<<20), "a.b", "a b", " a", "a ", "A", "aB", "Z", "a\n", "a\x00", "\x00", "\xff", "a\xff", "\u00e4", "a/b", "/", "..", ".", "_", "a_b", "\u2212", "+", "*", "\x80", "a\xe1", "new\x00"}
	for b := range 256 {
		for _, s := range []string{"", "a", long[:16]} {
			with := []string{string([]byte{byte(b)}) + s, s + string([]byte{byte(b)}), s + string([]byte{byte(b)}) + s}
			if strings.IndexByte(letters, byte(b)) >= 0 {
				good = append(good, with[:2]...)
			} else {
				bad = append(bad, with...)
			}
		}
	}
	for n := range 80 {
		s := strings.Repeat("q", n)
		if n >= 1 && n <= 32 {
			good = append(good, s)
		} else {
			bad = append(bad, s)
		}
	}
	for _, s := range good {
		mustBeName(t, s)
	}
	for _, s := range bad {
		mustBeNoName(t, s)
	}
}

// mustBeName holds calls with a name.
func mustBeName(t *testing.T, s string) {
	t.Helper()
	d := made(t, 10)
	must(t, d, add(s, "abc"), sync(s), add(s, "d"))
	mustHave(t, d, laid{s, "abcd", 3})
	must(t, d, truncate(s, 2))
	mustHave(t, d, laid{s, "ab", 2})
	must(t, d, remove(s), add("other", "x"), rename("other", s))
	mustHave(t, d, laid{s, "x", 0})
	must(t, d, rename(s, "other"))
	mustHave(t, d, laid{"other", "x", 0})
	mustNotHave(t, d, s)
}

// mustBeNoName holds calls with what is no name: there is no such file, and none can be called so.
func mustBeNoName(t *testing.T, s string) {
	t.Helper()
	d := made(t, 3)
	must(t, d, add("a", "ab"), sync("a"))
	file := laid{"a", "ab", 2}
	for _, b := range []string{"", "x", "xy", "xyz"} {
		mustNot(t, d, api.ErrArg, add(s, b), file)
	}
	mustNot(t, d, api.ErrArg, rename("a", s), file)
	mustNot(t, d, api.ErrArg, rename("none", s), file)
	mustNot(t, d, api.ErrArg, rename(s, s), file)
	mustNot(t, d, api.ErrNone, rename(s, "a"), file)
	mustNot(t, d, api.ErrNone, rename(s, "b"), file)
	mustNot(t, d, api.ErrNone, sync(s), file)
	mustNot(t, d, api.ErrNone, remove(s), file)
	for _, n := range []int{math.MinInt, -1, 0, 1, math.MaxInt} {
		mustNot(t, d, api.ErrNone, truncate(s, n), file)
	}
	mustNotHave(t, d, s)
	d.Cut(0)
	mustNot(t, d, api.ErrDisk, add(s, ""), file)
	mustNot(t, d, api.ErrDisk, add(s, ""), file)
	mustNot(t, d, api.ErrDisk, rename("a", s), file)
}

// P20.1: Append of nothing and of something, to a new file and to one that is there, with just room and with one byte too many.
func TestAppend(t *testing.T) {
	d := made(t, 7)
	must(t, d, add("b", ""))
	mustHave(t, d, laid{"b", "", 0})
	must(t, d, add("b", ""), add("a", "\x00\xff"))
	mustHave(t, d, laid{"a", "\x00\xff", 0}, laid{"b", "", 0})
	must(t, d, add("b", "cd"), add("a", "A"))
	files := []laid{{"a", "\x00\xffA", 0}, {"b", "cd", 0}}
	mustHave(t, d, files...)
	for _, b := range []string{"123", "1234", strings.Repeat("x", 7), strings.Repeat("x", 8), strings.Repeat("x", 1<<20)} {
		mustNot(t, d, api.ErrDisk, add("a", b), files...)
		mustNot(t, d, api.ErrDisk, add("b", b), files...)
		mustNot(t, d, api.ErrDisk, add("new", b), files...)
		mustNot(t, d, api.ErrArg, add("New", b), files...)
	}
	must(t, d, add("c", "12"))
	files = append(files, laid{"c", "12", 0})
	mustHave(t, d, files...)
	mustNot(t, d, api.ErrDisk, add("a", "1"), files...)
	mustNot(t, d, api.ErrDisk, add("d", "1"), files...)
	must(t, d, add("d", ""), add("a", ""), sync("a"), sync("d"))
	mustHave(t, d, laid{"a", "\x00\xffA", 3}, files[1], files[2], laid{"d", "", 0})
	must(t, d, truncate("a", 2), add("d", "!"))
	mustHave(t, d, laid{"a", "\x00\xff", 2}, files[1], files[2], laid{"d", "!", 0})
	mustNot(t, d, api.ErrDisk, add("d", "1"), laid{"a", "\x00\xff", 2}, files[1], files[2], laid{"d", "!", 0})
}

// P20.1: what frees room, and what doesn't.
func TestRoom(t *testing.T) {
	for _, c := range []struct {
		free act
		room int
	}{
		{sync("a"), 0}, {rename("a", "a"), 0}, {rename("a", "c"), 0}, {rename("a", "b"), 3}, {rename("b", "a"), 4}, {remove("a"), 4}, {remove("b"), 3},
		{truncate("a", 4), 0}, {truncate("a", 1), 3}, {truncate("a", 0), 4}, {truncate("b", 0), 3}, {truncate("a", 5), 0}, {remove("c"), 0}, {rename("c", "a"), 0}, {rename("c", "b"), 0},
		{crash(0, ""), 5}, {crash(1, ""), 3}, {crash(0, "xxxxx"), 0}, {crash(2, "x"), 0}, {crash(-1, "x"), 3}, {cut(-1), 0}, {cut(5), 0},
	} {
		d := made(t, 7)
		must(t, d, add("b", "bb"), sync("b"), add("a", "aaaa"), add("b", "b"))
		do(d, c.free)
		if e := d.Append("z", make([]byte, c.room+1)); e != api.ErrDisk {
			t.Errorf("%v: one byte too many: %d", c.free, e)
		}
		must(t, d, add("z", strings.Repeat("z", c.room)))
		if e := d.Append("z", make([]byte, 1)); e != api.ErrDisk || d.Used() != 7 {
			t.Errorf("%v: full: %d, %d", c.free, e, d.Used())
		}
	}
}

// P20.1: Sync.
func TestSync(t *testing.T) {
	d := made(t, 100)
	mustNot(t, d, api.ErrNone, sync("a"))
	must(t, d, add("a", ""), sync("a"))
	mustHave(t, d, laid{"a", "", 0})
	must(t, d, add("a", "abc"), add("b", "xy"), sync("a"))
	mustHave(t, d, laid{"a", "abc", 3}, laid{"b", "xy", 0})
	must(t, d, sync("a"), add("a", "d"))
	mustHave(t, d, laid{"a", "abcd", 3}, laid{"b", "xy", 0})
	must(t, d, sync("a"), sync("b"))
	mustHave(t, d, laid{"a", "abcd", 4}, laid{"b", "xy", 2})
	mustNot(t, d, api.ErrNone, sync("c"), laid{"a", "abcd", 4}, laid{"b", "xy", 2})
}

// P20.1: Truncate below, at and above what stands fast, and to what can't be.
func TestTruncate(t *testing.T) {
	whole := "abcdef"
	for fast := range len(whole) + 1 {
		for n := -3; n <= len(whole)+3; n++ {
			d := made(t, 10)
			must(t, d, add("a", whole[:fast]), sync("a"), add("a", whole[fast:]), add("b", "xy"))
			b := laid{"b", "xy", 0}
			if n < 0 || n > len(whole) {
				mustNot(t, d, api.ErrArg, truncate("a", n), laid{"a", whole, fast}, b)
				continue
			}
			must(t, d, truncate("a", n))
			mustHave(t, d, laid{"a", whole[:n], min(fast, n)}, b)
			must(t, d, add("a", "XYZ"[:2]))
			mustHave(t, d, laid{"a", whole[:n] + "XY", min(fast, n)}, b)
			mustNot(t, d, api.ErrArg, truncate("a", n+3), laid{"a", whole[:n] + "XY", min(fast, n)}, b)
		}
	}
	d := made(t, 10)
	for _, n := range []int{math.MinInt, -1 << 32, -1, 0, 1, math.MaxInt} {
		mustNot(t, d, api.ErrNone, truncate("a", n))
	}
	must(t, d, add("a", "abc"))
	for _, n := range []int{math.MinInt, math.MinInt + 1, -1 << 32, -1<<32 + 1, -1 << 31, 1<<31 + 1, 1 << 32, 1<<32 + 1, math.MaxInt} {
		mustNot(t, d, api.ErrArg, truncate("a", n), laid{"a", "abc", 0})
	}
}

// P20.1: Rename to another name, over another file, to itself, of none.
func TestRename(t *testing.T) {
	d := made(t, 10)
	mustNot(t, d, api.ErrNone, rename("a", "b"))
	mustNot(t, d, api.ErrNone, rename("a", "a"))
	must(t, d, add("a", "abc"), sync("a"), add("a", "d"), rename("a", "c"))
	c := laid{"c", "abcd", 3}
	mustHave(t, d, c)
	mustNotHave(t, d, "a")
	must(t, d, rename("c", "c"))
	mustHave(t, d, c)
	must(t, d, add("b", "xy"), sync("b"))
	mustNot(t, d, api.ErrNone, rename("a", "b"), laid{"b", "xy", 2}, c)
	mustNot(t, d, api.ErrNone, rename("a", "c"), laid{"b", "xy", 2}, c)
	mustNot(t, d, api.ErrNone, rename("a", "a"), laid{"b", "xy", 2}, c)
	must(t, d, rename("c", "b"))
	mustHave(t, d, laid{"b", "abcd", 3})
	mustNotHave(t, d, "a", "c")
	must(t, d, add("c", "x"), add("b", "e"), rename("b", "a"))
	mustHave(t, d, laid{"a", "abcde", 3}, laid{"c", "x", 0})
	must(t, d, rename("c", "a"), rename("a", "b"), add("a", "new"))
	mustHave(t, d, laid{"a", "new", 0}, laid{"b", "x", 0})
	must(t, d, sync("a"), rename("a", "t"), rename("b", "a"), rename("t", "b"))
	mustHave(t, d, laid{"a", "x", 0}, laid{"b", "new", 3})
}

// P20.1: Remove, behind which a file of that name is a new one.
func TestRemove(t *testing.T) {
	d := made(t, 10)
	mustNot(t, d, api.ErrNone, remove("a"))
	must(t, d, add("a", "abc"), sync("a"), add("b", "x"), add("c", ""), remove("a"))
	mustHave(t, d, laid{"b", "x", 0}, laid{"c", "", 0})
	mustNotHave(t, d, "a")
	mustNot(t, d, api.ErrNone, remove("a"), laid{"b", "x", 0}, laid{"c", "", 0})
	mustNot(t, d, api.ErrNone, sync("a"), laid{"b", "x", 0}, laid{"c", "", 0})
	must(t, d, add("a", "z"))
	mustHave(t, d, laid{"a", "z", 0}, laid{"b", "x", 0}, laid{"c", "", 0})
	must(t, d, remove("c"), remove("b"), remove("a"))
	mustHave(t, d)
}

// P20.1: Names rise byte by byte, however the files came.
func TestNames(t *testing.T) {
	rising := []string{"-", "--", "-0", "-a", "0", "00", "1", "10", "2", "9", "9-", "9z", "a", "a-", "a0", "aa", "ab", "b", "wal-0000000009", "wal-0000000010", "z", "z-", "zz"}
	by := rand.New(rand.NewSource(201))
	for range 100 {
		d := made(t, 100)
		for _, i := range by.Perm(len(rising)) {
			must(t, d, add(rising[i], "x"))
		}
		if got := d.Names(); !slices.Equal(got, rising) {
			t.Fatal(got)
		}
		for _, i := range by.Perm(len(rising))[:15] {
			must(t, d, remove(rising[i]), add(rising[i], ""))
		}
		if got := d.Names(); !slices.Equal(got, rising) {
			t.Fatal(got)
		}
	}
}

// P20.1: calls of each kind by chance, some of which are refused, with much room and with little.
func TestByChance(t *testing.T) {
	seen := map[[2]int]int{}
	for size := range 60 {
		m := maker{rand.New(rand.NewSource(int64(size))), []string{"a", "b", "new", "wal-1", "", "A", strings.Repeat("x", 32), strings.Repeat("x", 33)}, 6, 40}
		d, w := made(t, size), newByWords(size)
		for _, a := range m.acts(1000) {
			e, _ := w.do(a)
			seen[[2]int{a.kind, int(e)}]++
			w = hold(t, d, w, a)
		}
	}
	for _, k := range [][2]int{{doAppend, 0}, {doAppend, 1}, {doAppend, 200}, {doSync, 0}, {doSync, 5}, {doSync, 200}, {doTruncate, 0}, {doTruncate, 1}, {doTruncate, 5}, {doTruncate, 200}, {doRename, 0}, {doRename, 1}, {doRename, 5}, {doRename, 200}, {doRemove, 0}, {doRemove, 5}, {doRemove, 200}, {doCut, 0}, {doCrash, 0}} {
		if seen[k] < 100 {
			t.Error(k, seen[k])
		}
	}
}

// P20.1: longer files, and more of them.
func TestMuch(t *testing.T) {
	var names []string
	for i := range 40 {
		names = append(names, "file-"+strings.Repeat(letters[i%36:i%36+1], 1+i%20))
	}
	for seed := range 4 {
		m := maker{rand.New(rand.NewSource(int64(2010 + seed))), names, 3000, 100}
		hold(t, made(t, 40000), newByWords(40000), m.acts(500)...)
	}
}

// P20.1: what a great many files, and a great many calls, come to.
func TestMany(t *testing.T) {
	d := made(t, 1<<20)
	for i := range 100000 {
		n := []byte("file-00000")
		for j, k := len(n)-1, i; k > 0; j, k = j-1, k/10 {
			n[j] += byte(k % 10)
		}
		if d.Append(string(n), n) != api.OK {
			t.Fatal(i)
		}
	}
	if d.Used() != 1000000 || len(d.Names()) != 100000 || !slices.IsSorted(d.Names()) {
		t.Fatal(d.Used())
	}
	for range 100000 {
		if d.Append("file-00007", []byte("x")) != api.OK && d.Truncate("file-00007", 5) != api.OK {
			t.Fatal(d.Used())
		}
	}
	d.Crash(3, []byte("yz"))
	if d.Used() != 500000 || d.Fast("file-99999") != 5 {
		t.Fatal(d.Used())
	}
}
