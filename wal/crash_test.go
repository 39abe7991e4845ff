package wal_test

import (
	"math"
	"math/rand"
	"slices"
	"strings"
	"testing"

	"minstrel/api"
)

// tails are such as no record of these tests ends with.
func tails() []string {
	return []string{"", "x", strings.Repeat("\xff", 100), "wal-0000000001", "x" + string(segmentBytes(vote(60, 60)))}
}

// zeros are tails that make records whole that end with such bytes.
func zeros() []string {
	return []string{"\x00", "\x00\x00\x00", strings.Repeat("\x00", 100), string(segmentBytes(vote(60, 60)))[:39]}
}

// P21.5: a crash behind each act of a row, with each number of bytes kept: what is found are the acts whose records were kept whole.
func TestCrash(t *testing.T) {
	acts := row()
	folds := behindEach(acts)
	fast := 0
	var loose []string // the records that don't stand fast
	for i := range folds {
		if i > 0 {
			if acts[i-1].kind >= doInstall {
				fast, loose = i, nil
			} else {
				loose = append(loose, string(recordBytes(acts[i-1])))
			}
		}
		for keep := -2; keep <= len(strings.Join(loose, ""))+2; keep++ {
			whole, kept, rest := fast, max(keep, 0), ""
			for _, s := range loose {
				if kept < len(s) {
					rest = s[kept:]
					break
				}
				kept -= len(s)
				whole++
			}
			for _, tail := range append(tails(), zeros()...) {
				if rest == "" || !strings.HasPrefix(tail, rest) {
					crashBehind(t, acts[:i], keep, tail, folds[whole])
				}
			}
		}
		for _, keep := range []int{math.MinInt, math.MaxInt} {
			crashBehind(t, acts[:i], keep, "\xff\xff", folds[fast+len(loose)*max(0, keep/math.MaxInt)])
		}
	}
}

// crashBehind lets all be torn behind some acts, and holds what is found then.
func crashBehind(t *testing.T, acts []act, keep int, tail string, want words) {
	t.Helper()
	d := newDisk(t, 1<<20)
	w := opened(t, d)
	must(t, w, acts...)
	before := d.Names()
	d.Crash(keep, []byte(tail))
	for range 2 {
		mustTell(t, opened(t, d), want)
		if !slices.Equal(d.Names(), before) {
			t.Fatal(d.Names(), before)
		}
	}
}

// P21.5, P21.6: acts by chance, with powers that go, little room, and crashes between them; from what is found it goes on.
func TestCrashByChance(t *testing.T) {
	crashes, refusals := 0, 0
	for seed := range 1500 {
		by := rand.New(rand.NewSource(int64(seed)))
		d := newDisk(t, 300+by.Intn(4000))
		w := opened(t, d)
		folds, fast := []words{{}}, 0
		for range 80 {
			if by.Intn(10) == 0 {
				d.Cut(by.Intn(12) - 2)
			}
			last := folds[len(folds)-1]
			a := chance(by, last)
			want, next := last.do(a)
			e := do(w, a)
			switch {
			case e == api.ErrDisk:
				// What was refused may be there behind the crash, whole.
				refusals++
				mustTell(t, w, last)
				folds = append(folds, next)
			case e != want:
				t.Fatal(a, e, want)
			case e == api.OK:
				folds = append(folds, next)
				mustTell(t, w, next)
				if a.kind >= doInstall {
					fast = len(folds) - 1
				}
			}
			if e == api.ErrDisk || by.Intn(9) == 0 {
				crashes++
				d.Crash(by.Intn(120)-5, []byte(tails()[by.Intn(len(tails()))]))
				w = opened(t, d)
				i := mustBeOneOf(t, w, folds[fast:])
				folds, fast = []words{folds[fast+i]}, 0
				w = opened(t, d)
				mustTell(t, w, folds[0])
			}
		}
	}
	if crashes < 5000 || refusals < 1000 {
		t.Error(crashes, refusals)
	}
}

// P21.5: what is found behind a crash stands fast: another crash, right behind Open, changes nothing.
func TestCrashAgain(t *testing.T) {
	acts := row()
	for i := range acts {
		d := newDisk(t, 1<<20)
		must(t, opened(t, d), acts[:i+1]...)
		d.Crash(50, []byte("torn"))
		want := told(t, opened(t, d))
		for keep := range 3 {
			d.Crash(keep, []byte("again"))
			if got := told(t, opened(t, d)); got != want {
				t.Fatal(got, want)
			}
		}
		// Without a crash all is there, whether it stands fast or not, and does from Open on.
		d = newDisk(t, 1<<20)
		must(t, opened(t, d), acts[:i+1]...)
		mustTell(t, opened(t, d), all(acts[:i+1]...))
		d.Crash(0, []byte("x"))
		mustTell(t, opened(t, d), all(acts[:i+1]...))
	}
}
