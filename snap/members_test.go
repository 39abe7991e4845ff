package snap_test

import (
	"math"
	"slices"
	"testing"

	"minstrel/snap"
)

// mustMembers holds Members against what it should tell, and the words against that, too.
func mustMembers(t *testing.T, want bool, l ...int) {
	t.Helper()
	if membersByWords(l) != want {
		t.Fatal(l, "by the words:", !want)
	}
	if snap.Members(l) != want {
		t.Error(l, !want)
	}
}

// upTo are the numbers from a to b.
func upTo(a, b int) []int {
	var l []int
	for n := a; n <= b; n++ {
		l = append(l, n)
	}
	return l
}

// P19.1: rows that are empty, that rise, that don't; the chapter's example.
func TestMembers(t *testing.T) {
	mustMembers(t, true, 1, 3, 9)
	mustMembers(t, false, 3, 1)
	mustMembers(t, false)
	if snap.Members(nil) || snap.Members([]int{}) || snap.Members(make([]int, 0, 8)) {
		t.Error("none are members")
	}
	mustMembers(t, false, 2, 2)
	mustMembers(t, false, 1, 1, 2)
	mustMembers(t, false, 1, 2, 2)
	mustMembers(t, false, 1, 3, 2)
	mustMembers(t, false, 2, 1, 3)
	mustMembers(t, false, 64, 64)
	mustMembers(t, true, 63, 64)
	mustMembers(t, false, 64, 65)
	mustMembers(t, false, 0, 1)
	mustMembers(t, false, -1, 1)
	mustMembers(t, false, math.MinInt, 1)
	mustMembers(t, false, 1, math.MaxInt)
}

// P19.1: each number alone: those from 1 to MaxMembers, and no others.
func TestOneMember(t *testing.T) {
	for n := -1000; n <= 1000; n++ {
		mustMembers(t, n >= 1 && n <= 64, n)
	}
	for shift := 8; shift < 64; shift++ {
		for n := -65; n <= 65; n++ {
			mustMembers(t, false, 1<<shift+n)
			mustMembers(t, false, -1<<shift+n)
		}
	}
	for _, n := range []int{math.MaxInt, math.MinInt} {
		mustMembers(t, false, n)
	}
}

// P19.1: all rows of up to five of a few numbers, those at both limits and beyond them among these.
func TestShortRows(t *testing.T) {
	few := []int{math.MinInt, -1, 0, 1, 2, 63, 64, 65, math.MaxInt}
	var lay func(l []int, more int)
	lay = func(l []int, more int) {
		if snap.Members(l) != membersByWords(l) {
			t.Error(l)
		}
		for _, n := range few {
			if more > 0 {
				lay(append(slices.Clone(l), n), more-1)
			}
		}
	}
	lay(nil, 5)
}

// P19.1: as many members as there can be, and rows that are nearly these.
func TestAllMembers(t *testing.T) {
	all := upTo(1, 64)
	mustMembers(t, true, all...)
	mustMembers(t, false, upTo(1, 65)...)
	mustMembers(t, false, upTo(0, 64)...)
	mustMembers(t, false, upTo(0, 63)...)
	for i := range all {
		mustMembers(t, true, all[:i+1]...)
		mustMembers(t, true, all[i:]...)
		mustMembers(t, true, slices.Delete(slices.Clone(all), i, i+1)...)
		mustMembers(t, false, slices.Insert(slices.Clone(all), i, all[i])...)
		for _, n := range []int{-1, 0, 65, 1<<32 + i + 1, 1<<8 + i + 1, all[i] - 1, all[i] + 1} {
			l := slices.Clone(all)
			l[i] = n
			mustMembers(t, false, l...)
		}
	}
	fallen := slices.Clone(all)
	slices.Reverse(fallen)
	mustMembers(t, false, fallen...)
	mustMembers(t, false, slices.Repeat([]int{1}, 1<<16)...)
	mustMembers(t, false, slices.Repeat(all, 1000)...)
	mustMembers(t, false, upTo(1, 1<<16)...)
}
