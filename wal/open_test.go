package wal_test

import (
	"fmt"
	"slices"
	"strings"
	"testing"

	"minstrel/api"
	"minstrel/disk"
	"minstrel/wal"
)

// P21.3: Open of no disk, and of an empty one of any size, which is left as it is.
func TestOpenNone(t *testing.T) {
	if w, e := wal.Open(nil); w != nil || e != api.ErrArg {
		t.Error(w, e)
	}
	for _, size := range []int{0, 1, 1000, 1 << 26} {
		d := newDisk(t, size)
		mustTell(t, opened(t, d), words{})
		mustHave(t, d)
	}
}

// P21.3: of segments the one with the greatest number is read, and the others are gone.
func TestSegments(t *testing.T) {
	for _, numbers := range [][]uint64{{0}, {1}, {2}, {0, 1}, {1, 2}, {1, 2, 3}, {9, 10}, {9, 10, 11}, {99, 100}, {1, 1 << 31}, {1 << 31, 1<<32 + 1}, {1<<32 - 1, 1 << 32}, {2, 1 << 32}, {9999999998, 9999999999}, {0, 9999999999}, {1, 20, 300, 4000, 50000, 1234567890}} {
		var files []file
		for i, n := range numbers {
			files = append(files, file{segment(n), segmentBytes(vote(uint64(i)+1, i), none(7))})
		}
		for range 2 {
			d := diskOf(t, files...)
			slices.Reverse(files)
			top := slices.Max(numbers)
			last := len(numbers) - 1
			for range 2 {
				w := opened(t, d)
				mustTell(t, w, all(vote(uint64(last)+1, last), none(7)))
				mustHave(t, d, file{segment(top), segmentBytes(vote(uint64(last)+1, last), none(7))})
			}
			w := opened(t, d)
			must(t, w, none(8))
			if top < 9999999999 {
				must(t, w, install(snapOf(1, 7)))
				mustHave(t, d, file{segment(top + 1), segmentBytes(install(snapOf(1, 7)), vote(uint64(last)+1, last), none(8))})
			}
		}
	}
}

// P21.3: the segment with the greatest number counts, whatever of it can be read.
func TestNothingReadable(t *testing.T) {
	for _, b := range []string{"", "x", strings.Repeat("\x00", 100), string(segmentBytes(cut(5))), string(segmentBytes(vote(1, 65)))} {
		d := diskOf(t, file{segment(3), segmentBytes(vote(7, 7))}, file{segment(4), []byte(b)})
		w := opened(t, d)
		mustTell(t, w, words{})
		mustHave(t, d, file{segment(4), nil})
		must(t, w, none(3))
		mustHave(t, d, file{segment(4), segmentBytes(none(3))})
		must(t, w, install(snapOf(1, 3)))
		mustHave(t, d, file{segment(5), segmentBytes(install(snapOf(1, 3)), vote(0, 0))})
	}
}

// P21.3: files whose names merely look like a segment's are no segments, and are gone; other files stay.
func TestNames(t *testing.T) {
	looks := []string{"wal-", "wal--", "wal-1", "wal-000000001", "wal-999999999", "wal-00000000001", "wal-10000000000", "wal-99999999999", "wal-0000000001x", "wal-x0000000001", "wal-000000000a", "wal-a000000000", "wal-00000a0001", "wal--000000001", "wal-000000001-", "wal-00000-0001", "wal-0000000001-", "wal--0000000001", "wal-new", "wal-wal-0000000001", "wal-9999999999999999999999999999", "new"}
	others := []string{"wal", "wal0000000001", "wa", "w", "al-0000000001", "xwal-0000000001", "-wal-0000000001", "0wal-0000000009", "0000000001", "new-", "news", "new0", "ne", "xnew", "-new", "snap", "-", "0"}
	b := segmentBytes(vote(9, 9), none(9))
	for _, real := range []bool{false, true} {
		for _, name := range append(slices.Clone(looks), others...) {
			openWith(t, real, b, []string{name}, others)
		}
		openWith(t, real, b, append(slices.Clone(looks), others...), others)
	}
}

// openWith opens a disk that has files of these names, some of which should stay, and holds what there is.
func openWith(t *testing.T, real bool, b []byte, names, stay []string) {
	t.Helper()
	var files, left []file
	for _, name := range names {
		files = append(files, file{name, b})
		if slices.Contains(stay, name) {
			left = append(left, file{name, b})
		}
	}
	want := words{}
	if real {
		f := file{segment(1), segmentBytes(vote(1, 2))}
		files, left, want = append(files, f), append(left, f), all(vote(1, 2))
	}
	byName := func(a, b file) int { return strings.Compare(a.name, b.name) }
	slices.SortFunc(left, byName)
	d := diskOf(t, files...)
	w := opened(t, d)
	mustTell(t, w, want)
	mustHave(t, d, left...)
	// The first segment has the number 1.
	must(t, w, none(5))
	last := file{segment(1), segmentBytes(none(5))}
	left = slices.DeleteFunc(left, func(f file) bool { return f.name == last.name })
	if real {
		last.bytes = segmentBytes(vote(1, 2), none(5))
	}
	left = append(left, last)
	slices.SortFunc(left, byName)
	mustHave(t, d, left...)
}

// P21.4: the first segment has the number 1, be it Install's.
func TestFirstSegment(t *testing.T) {
	for i, a := range []act{vote(1, 1), none(1), cut(1), install(snapOf(5, 1))} {
		b := newBench(t)
		b.do(t, sync(), a, sync())
		if want := segment(1); !slices.Equal(b.d.Names(), []string{want}) {
			t.Error(i, b.d.Names())
		}
	}
}

// P21.4: Install goes from number to number.
func TestNumbers(t *testing.T) {
	for _, n := range []uint64{0, 1, 8, 9, 98, 99, 1<<31 - 1, 1<<32 - 1, 999999999, 1<<32 + 5, 9999999997} {
		d := diskOf(t, file{segment(n), segmentBytes(none(1))})
		w := opened(t, d)
		must(t, w, install(snapOf(1, 1)))
		mustHave(t, d, file{segment(n + 1), segmentBytes(install(snapOf(1, 1)), vote(0, 0))})
		must(t, w, none(3), install(snapOf(2, 3)))
		mustHave(t, d, file{segment(n + 2), segmentBytes(install(snapOf(2, 3)), vote(0, 0))})
	}
}

// P21.4, P21.5: behind the greatest number of a segment there is none; what is installed there is whole or not at all, too.
func TestGreatestNumber(t *testing.T) {
	top := segment(9999999999)
	for n := -1; n < 8; n++ {
		d := diskOf(t, file{top, segmentBytes(vote(2, 3), none(1), none(4))})
		w := opened(t, d)
		d.Cut(n)
		e := w.Install(snapOf(1, 1))
		mustTell(t, w, all(rowOf(e, install(snapOf(1, 1)), vote(2, 3), none(1), none(4))...))
		d.Crash(0, []byte("x"))
		w = opened(t, d)
		mustTell(t, w, all(rowOf(e, install(snapOf(1, 1)), vote(2, 3), none(1), none(4))...))
		if !slices.Equal(d.Names(), []string{top}) {
			t.Fatal(d.Names())
		}
		must(t, w, install(snapOf(7, 7)), none(5), install(snapOf(8, 5)), none(6))
		mustTell(t, opened(t, d), all(vote(2, 3), install(snapOf(8, 5)), none(6)))
	}
}

// rowOf are acts, behind which there is one more, if it was OK.
func rowOf(e api.Errno, last act, acts ...act) []act {
	if e == api.OK {
		return append(acts, last)
	}
	return acts
}

// P21.3: Open of a disk without power is refused where it has to do anything there.
func TestOpenNoPower(t *testing.T) {
	gone := func(files ...file) *disk.Disk {
		d := diskOf(t, files...)
		d.Cut(0)
		d.Sync("x")
		return d
	}
	for i, files := range [][]file{{{segment(1), segmentBytes(none(1))}}, {{segment(1), []byte("x")}}, {{segment(1), nil}}, {{"new", nil}}, {{"wal-x", nil}}} {
		d := gone(files...)
		if w, e := wal.Open(d); w != nil || e != api.ErrDisk {
			t.Error(i, w, e)
		}
		mustHave(t, d, files...)
	}
	for i, files := range [][]file{nil, {{"other", []byte("x")}}} {
		w, e := wal.Open(gone(files...))
		if w == nil || e != api.OK {
			t.Fatal(i, e)
		}
		if w.Sync() != api.OK || w.SetVote(1, 1) != api.ErrDisk || w.Sync() != api.ErrDisk {
			t.Error(i, "there is a segment")
		}
		mustTell(t, w, words{})
	}
}

// P21.3, P21.5, P21.6: the power goes at each of Open's calls: it is refused, and the next one finds what this one would have found.
func TestOpenCut(t *testing.T) {
	most := 0
	for n := range 12 {
		for keep := -1; keep < 3; keep++ {
			for _, tail := range []string{"", "x", strings.Repeat("\xff", 30)} {
				b := segmentBytes(good()...)
				d := diskOf(t, file{segment(1), segmentBytes(vote(9, 9))}, file{segment(8), segmentBytes(vote(8, 8))}, file{segment(9), b}, file{"new", []byte("x")}, file{"wal-x", nil}, file{"other", []byte("o")})
				d.Append(segment(9), []byte("torn"))
				d.Cut(n)
				w, e := wal.Open(d)
				if e == api.OK {
					most = max(most, n)
					mustTell(t, w, all(good()...))
				} else if w != nil || e != api.ErrDisk {
					t.Fatal(n, w, e)
				}
				d.Crash(keep, []byte(tail))
				mustTell(t, opened(t, d), all(good()...))
				mustHave(t, d, file{"other", []byte("o")}, file{segment(9), b})
				if n < 6 && e == api.OK {
					t.Fatal(n, "of Truncate, Sync and four Removes one is not done")
				}
			}
		}
	}
	if most != 11 {
		t.Error(most)
	}
	// Without a segment there are only files to be removed.
	for n := range 4 {
		d := diskOf(t, file{"new", segmentBytes(vote(1, 1))}, file{"other", nil}, file{"wal-1", segmentBytes(vote(1, 1))})
		d.Cut(n)
		w, e := wal.Open(d)
		if (e == api.OK) != (n >= 2) || e != api.OK && w != nil {
			t.Error(n, e)
		}
		if e == api.OK {
			mustTell(t, w, words{})
		}
	}
}

// P21.6: what Open left is found again, and again, and nothing on the disk is changed by that.
func TestOpenTwice(t *testing.T) {
	acts := row()
	for i, want := range behindEach(acts) {
		for _, tail := range []string{"", "torn", "\x00\x00\x00\x20"} {
			d := newDisk(t, 1<<20)
			w := opened(t, d)
			must(t, w, acts[:i]...)
			for _, name := range d.Names() {
				d.Append(name, []byte(tail))
			}
			mustTell(t, opened(t, d), want)
			left := fmt.Sprint(files(d))
			for range 3 {
				mustTell(t, opened(t, d), want)
				if now := fmt.Sprint(files(d)); now != left {
					t.Fatal(now, left)
				}
			}
			d.Crash(0, []byte("x"))
			mustTell(t, opened(t, d), want)
			if now := fmt.Sprint(files(d)); now != left {
				t.Fatal("behind a crash:", now, left)
			}
		}
	}
}

// files are all that lie on a disk.
func files(d *disk.Disk) []file {
	var l []file
	for _, name := range d.Names() {
		b, _ := d.Read(name)
		l = append(l, file{name, b})
	}
	return l
}

// P21.3, P21.4: what was opened goes on as what was never closed.
func TestGoesOn(t *testing.T) {
	acts := row()
	for i := range acts {
		b := newBench(t)
		b.do(t, acts[:i]...)
		b.w = opened(t, b.d)
		b.fast = len(b.bytes)
		b.do(t, acts[i:]...)
	}
}

// P21.3: what Open does on the disk comes in its order: what can't be read is cut off, the segment Synced, the other files Removed; the power may go ahead of each.
func TestOpenOrder(t *testing.T) {
	b := segmentBytes(good()...)
	for n := range 7 {
		d := diskOf(t, file{"new", nil}, file{"wal-0", nil}, file{segment(8), nil}, file{segment(9), b[:50]}, file{"wal-x", nil})
		d.Append(segment(9), slices.Concat(b[50:], []byte("torn")))
		d.Cut(n)
		wal.Open(d)
		left, _ := d.Read(segment(9))
		if want := len(b) + 4*max(0, 1-n); len(left) != want {
			t.Errorf("call %d: the segment has %d bytes, want %d", n, len(left), want)
		}
		if (d.Fast(segment(9)) == len(b)) != (n >= 2) {
			t.Errorf("call %d: %d bytes stand fast", n, d.Fast(segment(9)))
		}
		if want := 5 - max(0, min(n-2, 4)); len(d.Names()) != want {
			t.Errorf("call %d: files: %v", n, d.Names())
		}
	}
	// A segment that is whole is Truncated, too: to all that it has.
	for n := range 3 {
		d := diskOf(t, file{segment(9), b})
		d.Cut(n)
		if _, e := wal.Open(d); (e == api.OK) != (n >= 2) {
			t.Error(n, e)
		}
	}
}
