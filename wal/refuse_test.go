package wal_test

import (
	"fmt"
	"testing"

	"minstrel/api"
	"minstrel/disk"
	"minstrel/wal"
)

// refusesAll holds that all calls answer ErrDisk, those with wrong arguments too, that what is told stays, and that the disk is left alone.
func refusesAll(t *testing.T, d *disk.Disk, w *wal.Wal, want words) {
	t.Helper()
	before := fmt.Sprint(files(d))
	for _, a := range []act{vote(7, 7), vote(7, 65), vote(7, -1), none(7), put(api.Entry{Kind: 5}), members(1, 0), cut(want.last() + 1), cut(0), install(snapOf(want.last()+1, 7)), install(snapOf(0, 7)), install(api.Snap{}), sync(), none(1)} {
		if e := do(w, a); e != api.ErrDisk {
			t.Fatalf("%.200s: answered %d", a, e)
		}
		mustTell(t, w, want)
	}
	if now := fmt.Sprint(files(d)); now != before {
		t.Fatalf("the disk was changed: %.200s", now)
	}
}

// P21.2, P21.5: the power goes at each call of a row: the act is refused, and all others from then on; behind a crash there is what was ahead, or with it what was refused.
func TestPowerGoes(t *testing.T) {
	acts := row()
	folds := behindEach(acts)
	refused := map[int]int{}
	for n := range 70 {
		for _, keep := range []int{-1, 0, 1, 40, 1 << 20} {
			d := newDisk(t, 1<<20)
			w := opened(t, d)
			d.Cut(n)
			i, fast := 0, 0
			for i < len(acts) && do(w, acts[i]) == api.OK {
				if acts[i].kind >= doInstall {
					fast = i + 1
				}
				i++
			}
			mustTell(t, w, folds[i])
			if i == len(acts) {
				continue
			}
			refused[acts[i].kind]++
			refusesAll(t, d, w, folds[i])
			if v, e := wal.Open(d); v != nil || e != api.ErrDisk {
				t.Fatal("opened without power:", e)
			}
			d.Crash(keep, nil)
			refusesAll(t, d, w, folds[i])
			v := opened(t, d)
			mustBeOneOf(t, v, folds[fast:i+2])
			if keep == 1<<20 && acts[i].kind < doInstall {
				mustTell(t, v, folds[i+1])
			}
			refusesAll(t, d, w, folds[i])
			if v.SetVote(1, 1) != api.OK {
				t.Fatal("refused behind a crash")
			}
		}
	}
	for kind := doVote; kind <= doSync; kind++ {
		if refused[kind] == 0 {
			t.Error("never refused:", kind)
		}
	}
}

// mustBeOneOf holds that a wal tells what one of these would, and answers which.
func mustBeOneOf(t *testing.T, w *wal.Wal, folds []words) int {
	t.Helper()
	got := told(t, w)
	for i, f := range folds {
		if f.tell() == got {
			return i
		}
	}
	t.Fatalf("told\n%.1000q, none of %d that it could be, the first of which\n%.1000q", got, len(folds), folds[0].tell())
	return 0
}

// P21.2, P21.4: how many calls of the disk there are, as seen from one at which the power goes: SetVote, Append, Cut, Sync have one; Install Appends each record, Syncs, Renames and Removes.
func TestCalls(t *testing.T) {
	for _, c := range []struct {
		a    act
		want int
	}{
		{vote(3, 3), 1}, {none(3), 1}, {command(3, "x"), 1}, {members(3, 3), 1}, {cut(6), 1}, {cut(9), 1}, {sync(), 1},
		{vote(3, 65), 0}, {members(3), 0}, {cut(10), 0}, {install(snapOf(5, 2)), 0},
		{install(snapOf(8, 2)), 5}, {install(snapOf(7, 2)), 6}, {install(snapOf(6, 2)), 7}, {install(snapOf(6, 3)), 5}, {install(snapOf(9, 3)), 5},
	} {
		for n := range 9 {
			d := newDisk(t, 1<<20)
			w := opened(t, d)
			must(t, w, install(snapOf(5, 2)), none(2), none(2), none(2))
			d.Cut(n)
			e := do(w, c.a)
			if (e == api.ErrDisk) != (n < c.want) {
				t.Errorf("%s: %d at call %d", c.a, e, n)
			}
			// If no call was refused, the power has yet to go.
			if e != api.ErrDisk && n > c.want && d.Sync("none") != api.ErrNone {
				t.Errorf("%s: more calls than %d", c.a, c.want)
			}
			if e != api.ErrDisk && n == c.want && d.Sync("none") != api.ErrDisk {
				t.Errorf("%s: less calls than %d", c.a, c.want)
			}
		}
	}
	d := newDisk(t, 1<<20)
	w := opened(t, d)
	d.Cut(0)
	if w.Sync() != api.OK || w.SetVote(1, 1) != api.ErrDisk {
		t.Error("without a segment there is nothing to Sync")
	}
}

// P21.4, P21.5: Install with the power going at each of its calls: behind a crash there is all that was ahead, or the snapshot with what stays.
func TestInstallCut(t *testing.T) {
	for _, index := range []uint64{6, 7, 8, 9} {
		for _, synced := range []bool{true, false} {
			for n := range 9 {
				for keep := -1; keep < 200; keep += 3 {
					for _, tail := range []string{"", "x", "\xff\xff\xff\xff\xff\xff\xff\xff\xff\xff"} {
						acts := []act{install(snapOf(5, 2)), vote(4, 4), none(2), command(2, "x"), none(2)}
						if synced {
							acts = append(acts, sync())
						}
						d := newDisk(t, 1<<20)
						w := opened(t, d)
						must(t, w, acts...)
						a := install(snapOf(index, 2))
						d.Cut(n)
						e := do(w, a)
						// The snapshot, the vote, the entries that stay: so many are Appended.
						lay := 2 + max(0, 8-int(index))
						if (e == api.OK) != (n >= lay+3) {
							t.Fatal(index, n, e)
						}
						d.Crash(keep, []byte(tail))
						v := opened(t, d)
						folds := behindEach(append(acts, a))
						least := 1
						if synced {
							least = len(acts)
						}
						if n == lay+2 || e == api.OK {
							mustTell(t, v, folds[len(acts)+1])
						} else {
							mustBeOneOf(t, v, folds[least:len(acts)+1])
						}
						if len(d.Names()) != 1 {
							t.Fatal(d.Names())
						}
					}
				}
			}
		}
	}
}

// P21.4: a file "new" that is there is gone ahead of what Install lays, whatever it has.
func TestNewIsThere(t *testing.T) {
	for _, b := range []string{"", "x", string(segmentBytes(vote(9, 9)))} {
		for n := -1; n < 9; n++ {
			for _, index := range []uint64{1, 2, 5} {
				d := newDisk(t, 1<<20)
				w := opened(t, d)
				acts := []act{vote(3, 4), none(2), none(2)}
				must(t, w, acts...)
				d.Append("new", []byte(b))
				d.Cut(n)
				a := install(snapOf(index, 2))
				e := do(w, a)
				want := all(rowOf(e, a, acts...)...)
				mustTell(t, w, want)
				d.Crash(1<<20, nil)
				v := opened(t, d)
				if e == api.OK {
					mustTell(t, v, want)
					mustHave(t, d, file{segment(2), segmentBytes(want.laidAnew()...)})
				} else {
					mustBeOneOf(t, v, []words{want, all(append(acts, a)...)})
				}
				if n == 0 && e == api.OK {
					t.Fatal("it was not Removed")
				}
			}
		}
	}
}

// P21.2, P21.5: disks of each size, on which sooner or later there is no room: nothing is lost of what was done.
func TestNoRoom(t *testing.T) {
	acts := row()
	folds := behindEach(acts)
	refused := map[int]int{}
	for size := range 1100 {
		d := newDisk(t, size)
		w := opened(t, d)
		i := 0
		for i < len(acts) && do(w, acts[i]) == api.OK {
			i++
		}
		if i == len(acts) {
			continue
		}
		refused[acts[i].kind]++
		refusesAll(t, d, w, folds[i])
		mustTell(t, opened(t, d), folds[i])
		if d.Used() > size {
			t.Fatal(d.Used())
		}
	}
	for kind := doVote; kind <= doInstall; kind++ {
		if refused[kind] == 0 {
			t.Error("never refused:", kind)
		}
	}
}

// P21.2: a segment that is gone from the disk can't be Synced, nor taken away, and that is a refusal as any other.
func TestSegmentGone(t *testing.T) {
	for _, a := range []act{sync(), install(snapOf(7, 7))} {
		d := newDisk(t, 1<<20)
		w := opened(t, d)
		must(t, w, vote(1, 1), none(1))
		d.Remove(segment(1))
		if e := do(w, a); e != api.ErrDisk {
			t.Error(a, e)
		}
		refusesAll(t, d, w, all(vote(1, 1), none(1)))
	}
}
