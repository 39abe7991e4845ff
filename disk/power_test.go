package disk_test

import (
	"math"
	"math/rand"
	"testing"

	"minstrel/api"
	"minstrel/disk"
)

// row is calls of each kind, with some among them that would be refused.
func row() []act {
	return []act{
		add("a", "abc"), sync("a"), add("A", "x"), add("a", "de"), add("b", ""), sync("none"), truncate("a", 4), truncate("a", 9), truncate("none", 0), add("new", "fgh"), sync("new"),
		add("b", "too much for it"), rename("new", "b"), rename("b", ""), rename("none", "b"), add("b", "i"), remove("none"), rename("a", "a"), add("c", "j"), remove("b"), truncate("c", 0), sync("c"), add("d", ""),
	}
}

// P20.2: the power goes at each call of a row, whatever the calls answer; of those at which it goes an Append that would be OK is done.
func TestCut(t *testing.T) {
	for n := range len(row()) + 3 {
		d, w := made(t, 12), newByWords(12)
		w = hold(t, d, w, cut(n))
		hold(t, d, w, append(row(), row()...)...)
	}
}

// P20.2: the power goes at calls of each kind, as reckoned by hand.
func TestCutByHand(t *testing.T) {
	for _, c := range []struct {
		a    act
		a1   laid // a behind the call at which the power goes
		more []laid
	}{
		{add("a", "!"), laid{"a", "abcd!", 3}, nil},
		{add("a", ""), laid{"a", "abcd", 3}, nil},
		{add("a", "12345678"), laid{"a", "abcd12345678", 3}, nil},
		{add("b", "x"), laid{"a", "abcd", 3}, []laid{{"b", "x", 0}}},
		{add("b", ""), laid{"a", "abcd", 3}, []laid{{"b", "", 0}}},
		{add("a", "123456789"), laid{"a", "abcd", 3}, nil},
		{add("b", "123456789"), laid{"a", "abcd", 3}, nil},
		{add("A", "x"), laid{"a", "abcd", 3}, nil},
		{add("", ""), laid{"a", "abcd", 3}, nil},
		{sync("a"), laid{"a", "abcd", 3}, nil},
		{sync("b"), laid{"a", "abcd", 3}, nil},
		{truncate("a", 2), laid{"a", "abcd", 3}, nil},
		{truncate("a", -1), laid{"a", "abcd", 3}, nil},
		{truncate("b", 2), laid{"a", "abcd", 3}, nil},
		{rename("a", "b"), laid{"a", "abcd", 3}, nil},
		{rename("a", "a"), laid{"a", "abcd", 3}, nil},
		{rename("a", "B"), laid{"a", "abcd", 3}, nil},
		{rename("b", "a"), laid{"a", "abcd", 3}, nil},
		{remove("a"), laid{"a", "abcd", 3}, nil},
		{remove("b"), laid{"a", "abcd", 3}, nil},
	} {
		for n := range 4 {
			d := made(t, 12)
			must(t, d, add("a", "abc"), sync("a"), add("a", "d"), cut(n))
			for range n {
				must(t, d, add("a", ""))
			}
			files := append([]laid{c.a1}, c.more...)
			mustNot(t, d, api.ErrDisk, c.a, files...)
			mustNot(t, d, api.ErrDisk, c.a, files...)
			for _, a := range row() {
				mustNot(t, d, api.ErrDisk, a, files...)
			}
		}
	}
}

// P20.2: calls that tell, or that cut, are none that are counted.
func TestCutCounts(t *testing.T) {
	d := made(t, 10)
	must(t, d, add("a", "abc"), cut(2))
	for range 5 {
		mustHave(t, d, laid{"a", "abc", 0})
		mustNotHave(t, d, "b", "B")
	}
	must(t, d, sync("a"))
	mustHave(t, d, laid{"a", "abc", 3})
	must(t, d, add("a", "d"))
	mustHave(t, d, laid{"a", "abcd", 3})
	mustNot(t, d, api.ErrDisk, sync("a"), laid{"a", "abcd", 3})
	for _, refused := range []act{add("A", ""), add("a", "too much for it"), sync("b"), truncate("a", 99), truncate("b", 0), rename("a", ""), rename("b", "a"), remove("b")} {
		d := made(t, 10)
		must(t, d, add("a", "abc"), cut(1))
		if e := do(d, refused); e == api.OK {
			t.Error(refused)
		}
		mustNot(t, d, api.ErrDisk, sync("a"), laid{"a", "abc", 0})
	}
}

// P20.2: Cut below 0: the power never goes, whatever Cut said ahead of it.
func TestCutNever(t *testing.T) {
	for _, n := range []int{-1, -2, -3, -1 << 31, -1 << 32, math.MinInt} {
		d := made(t, 10)
		must(t, d, cut(n))
		for range 100 {
			must(t, d, add("a", "abc"), sync("a"), truncate("a", 0))
		}
		must(t, d, cut(0), cut(n), sync("a"), cut(3), sync("a"), sync("a"), cut(n))
		for range 100 {
			must(t, d, add("a", "abc"), sync("a"), truncate("a", 0))
		}
	}
}

// P20.2: Cut again counts from then on.
func TestCutAgain(t *testing.T) {
	for first := range 6 {
		for made1 := range first + 1 {
			for again := range 6 {
				d := made(t, 100)
				must(t, d, add("a", "abc"), cut(first))
				for range made1 {
					must(t, d, sync("a"))
				}
				must(t, d, cut(again))
				for range again {
					must(t, d, sync("a"))
				}
				mustNot(t, d, api.ErrDisk, add("a", "d"), laid{"a", "abcd", d.Fast("a")})
				mustNot(t, d, api.ErrDisk, add("a", "d"), laid{"a", "abcd", d.Fast("a")})
			}
		}
	}
}

// P20.2, P20.3: power that is gone is back behind a crash alone, not behind a Cut.
func TestCutGone(t *testing.T) {
	for _, n := range []int{math.MinInt, -1, 0, 1, 5, math.MaxInt} {
		d := made(t, 100)
		must(t, d, add("a", "abc"), sync("a"), cut(0))
		mustNot(t, d, api.ErrDisk, sync("a"), laid{"a", "abc", 3})
		d.Cut(n)
		for range 10 {
			mustNot(t, d, api.ErrDisk, add("a", "d"), laid{"a", "abc", 3})
			mustNot(t, d, api.ErrDisk, remove("a"), laid{"a", "abc", 3})
		}
		d.Crash(0, nil)
		for range 10 {
			must(t, d, add("a", "d"), truncate("a", 3), sync("a"))
		}
		must(t, d, cut(1), sync("a"))
		mustNot(t, d, api.ErrDisk, sync("a"), laid{"a", "abc", 3})
	}
}

// P20.2: Cut behind as many calls as there can be.
func TestCutFar(t *testing.T) {
	for _, n := range []int{math.MaxInt, math.MaxInt - 1, 1<<31 - 1, 1 << 31, 1 << 32, 1<<32 + 1, 1000} {
		d := made(t, 100)
		must(t, d, cut(n))
		for range 333 {
			must(t, d, add("a", "abc"), sync("a"), truncate("a", 0))
		}
		must(t, d, sync("a"))
		if n == 1000 {
			mustNot(t, d, api.ErrDisk, sync("a"), laid{"a", "", 0})
		}
	}
}

// P20.2: a disk that no call ever cut has its power, and one that was cut lets another one be.
func TestCutOther(t *testing.T) {
	d, other := made(t, 10), made(t, 10)
	d.Cut(0)
	must(t, other, add("a", "abc"))
	mustNot(t, d, api.ErrDisk, add("a", "d"), laid{"a", "d", 0})
	must(t, other, sync("a"))
	other.Crash(0, nil)
	mustNot(t, d, api.ErrDisk, sync("a"), laid{"a", "d", 0})
	mustHave(t, other, laid{"a", "abc", 3})
}

// P20.2, P20.3: Cut and Crash by chance among rows by chance.
func TestCutByChance(t *testing.T) {
	gone := 0
	for seed := range 2000 {
		by := rand.New(rand.NewSource(int64(seed)))
		m := maker{by, []string{"a", "b", "c", "C"}, 4, 8}
		size := by.Intn(30)
		w := hold(t, made(t, size), newByWords(size), m.acts(40)...)
		if w.gone() {
			gone++
		}
	}
	if gone < 150 || gone > 1850 {
		t.Error(gone)
	}
}

// Rules (Ends): a Disk that New did not make panics at no call.
func TestZero(t *testing.T) {
	for seed := range 200 {
		var d disk.Disk
		m := maker{rand.New(rand.NewSource(int64(seed))), []string{"a", "b", "B", ""}, 2, 8}
		for _, a := range m.acts(50) {
			do(&d, a)
			d.Read(a.name)
			d.Fast(a.to)
			d.Names()
			d.Used()
		}
	}
}
