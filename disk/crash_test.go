package disk_test

import (
	"math"
	"strings"
	"testing"

	"minstrel/api"
)

// P20.3, example 1: what is kept, and the tail.
func TestExample(t *testing.T) {
	d := made(t, 100)
	must(t, d, add("f", "ab"), sync("f"), add("f", "cd"), crash(1, "x"))
	mustHave(t, d, laid{"f", "abcx", 4})
}

// P20.3: one file, of which so many bytes stand fast and so many don't, with just so much room.
func TestCrashOne(t *testing.T) {
	keeps := []int{math.MinInt, -1 << 32, -2, -1, 0, 1, 2, 3, 4, 5, 1<<31 - 1, 1 << 31, 1 << 32, 1<<32 + 1, math.MaxInt - 1, math.MaxInt}
	fast, loose, tail := "abcd", "EFGH", "wxyz"
	for i := range len(fast) + 1 {
		for j := range len(loose) + 1 {
			for k := range len(tail) + 1 {
				for free := range 8 {
					for _, keep := range keeps {
						d := made(t, i+j+free)
						must(t, d, add("f", fast[:i]), sync("f"), add("f", loose[:j]), crash(keep, tail[:k]))
						stay := max(0, min(keep, j))
						want := fast[:i] + loose[:stay]
						if j > 0 {
							want += tail[:min(k, j+free-stay)]
						}
						mustHave(t, d, laid{"f", want, len(want)})
					}
				}
			}
		}
	}
}

// P20.3: more files than one, as reckoned by hand.
func TestCrashByHand(t *testing.T) {
	three := []act{add("b", "bb"), sync("b"), add("b", "BBB"), add("c", "CC"), add("a", "aaa"), sync("a"), add("d", "")}
	for _, c := range []struct {
		size, keep int
		tail       string
		want       []laid
	}{
		{10, 9, "", []laid{{"a", "aaa", 3}, {"b", "bbBBB", 5}, {"c", "CC", 2}, {"d", "", 0}}},
		{10, 9, "xyz", []laid{{"a", "aaa", 3}, {"b", "bbBBB", 5}, {"c", "CC", 2}, {"d", "", 0}}},
		{11, 9, "xyz", []laid{{"a", "aaa", 3}, {"b", "bbBBBx", 6}, {"c", "CC", 2}, {"d", "", 0}}},
		{13, 9, "xyz", []laid{{"a", "aaa", 3}, {"b", "bbBBBxyz", 8}, {"c", "CC", 2}, {"d", "", 0}}},
		{14, 9, "xyz", []laid{{"a", "aaa", 3}, {"b", "bbBBBxyz", 8}, {"c", "CCx", 3}, {"d", "", 0}}},
		{99, 9, "xyz", []laid{{"a", "aaa", 3}, {"b", "bbBBBxyz", 8}, {"c", "CCxyz", 5}, {"d", "", 0}}},
		{10, 2, "xyz", []laid{{"a", "aaa", 3}, {"b", "bbBBx", 5}, {"c", "CC", 2}, {"d", "", 0}}},
		{10, 1, "xyz", []laid{{"a", "aaa", 3}, {"b", "bbBxyz", 6}, {"c", "C", 1}, {"d", "", 0}}},
		{10, 0, "xyz", []laid{{"a", "aaa", 3}, {"b", "bbxyz", 5}, {"c", "xy", 2}, {"d", "", 0}}},
		{10, -1, "x", []laid{{"a", "aaa", 3}, {"b", "bbx", 3}, {"c", "x", 1}, {"d", "", 0}}},
		{10, 0, "", []laid{{"a", "aaa", 3}, {"b", "bb", 2}, {"c", "", 0}, {"d", "", 0}}},
		{10, 0, "uvwxyz", []laid{{"a", "aaa", 3}, {"b", "bbuvwxy", 7}, {"c", "", 0}, {"d", "", 0}}},
	} {
		for _, cuts := range []int{-1, 0, 1, 9} {
			d := made(t, c.size)
			must(t, d, three...)
			must(t, d, cut(cuts))
			if cuts == 0 {
				mustNot(t, d, api.ErrDisk, remove("a"), laid{"a", "aaa", 3}, laid{"b", "bbBBB", 2}, laid{"c", "CC", 0}, laid{"d", "", 0})
			}
			d.Crash(c.keep, []byte(c.tail))
			mustHave(t, d, c.want...)
			for range 20 {
				must(t, d, sync("a"), rename("a", "x"), rename("x", "a"))
			}
			d.Crash(0, []byte("?"))
			mustHave(t, d, c.want...)
		}
	}
}

// P20.3: there is room for a tail behind all that is torn, be the files' names ahead of it or behind.
func TestCrashRoom(t *testing.T) {
	d := made(t, 10)
	must(t, d, add("a", "12"), add("b", "34567890"), crash(0, "wxyz"))
	mustHave(t, d, laid{"a", "wxyz", 4}, laid{"b", "wxyz", 4})
	d = made(t, 10)
	must(t, d, add("a", "12"), add("b", "34567890"), crash(1, "stuvwxyz"))
	mustHave(t, d, laid{"a", "1stuvwxyz", 9}, laid{"b", "3", 1})
}

// P20.3: two files and three, each with what stands fast and what doesn't, with little room.
func TestCrashMore(t *testing.T) {
	fast, loose, tail := "ab", "CD", "xyz"
	for code := range 9 * 9 * 10 {
		parts := []int{code % 9, code / 9 % 9, code / 81}
		for free := range 5 {
			for keep := -1; keep < 3; keep++ {
				d, w := made(t, 12), newByWords(12)
				filler := 12 - free
				for i, p := range parts {
					if p < 9 {
						filler -= p%3 + p/3
						s := letters[i : i+1]
						w = hold(t, d, w, add(s, fast[:p%3]), sync(s), add(s, loose[:p/3]))
					}
				}
				w = hold(t, d, w, add("filler", strings.Repeat("f", max(filler, 0))), sync("filler"))
				hold(t, d, w, crash(keep, tail), add("a", "!"), crash(keep, tail))
			}
		}
	}
}

// P20.3: a crash behind a Cut that has come, or not yet, or of an Append at which the power went.
func TestCrashCut(t *testing.T) {
	for n := range len(row()) + 3 {
		for keep := -1; keep <= 4; keep++ {
			for _, tail := range []string{"", "x", "xyzxyz", strings.Repeat("x", 40)} {
				d, w := made(t, 12), newByWords(12)
				w = hold(t, d, w, cut(n))
				w = hold(t, d, w, row()...)
				w = hold(t, d, w, crash(keep, tail))
				hold(t, d, w, row()...)
			}
		}
	}
	d := made(t, 10)
	must(t, d, add("a", "ab"), sync("a"), cut(0))
	mustNot(t, d, api.ErrDisk, add("a", "cd"), laid{"a", "abcd", 2})
	d.Crash(1, []byte("x"))
	mustHave(t, d, laid{"a", "abcx", 4})
	must(t, d, add("a", "e"), sync("a"))
	mustHave(t, d, laid{"a", "abcxe", 5})
}

// P20.3: files that have been renamed, or cut short, are torn by what of them stands fast.
func TestCrashMoved(t *testing.T) {
	d := made(t, 20)
	must(t, d, add("new", "abc"), sync("new"), add("old", "xyz"), sync("old"), add("new", "d"), rename("new", "old"), crash(0, "!"))
	mustHave(t, d, laid{"old", "abc!", 4})
	must(t, d, add("old", "ef"), truncate("old", 5), crash(9, "?"))
	mustHave(t, d, laid{"old", "abc!e?", 6})
	must(t, d, add("old", "g"), truncate("old", 6), crash(9, "?"))
	mustHave(t, d, laid{"old", "abc!e?", 6})
	must(t, d, truncate("old", 2), crash(0, "?"))
	mustHave(t, d, laid{"old", "ab", 2})
	must(t, d, add("old", "h"), remove("old"), add("old", "ij"), crash(0, "?"))
	mustHave(t, d, laid{"old", "?", 1})
}

// P20.3: on a full disk, and on one of the greatest size.
func TestCrashFull(t *testing.T) {
	for _, size := range []int{0, 1, 5, 1 << 26} {
		d := made(t, size)
		whole := strings.Repeat("w", size)
		must(t, d, add("a", whole), crash(math.MaxInt, "x"))
		mustHave(t, d, laid{"a", whole, size})
		must(t, d, truncate("a", size/2), add("b", whole[:size-size/2]), crash(-1, whole))
		mustHave(t, d, laid{"a", whole[:size/2], size / 2}, laid{"b", whole[:size-size/2], size - size/2})
	}
	d := made(t, 10)
	d.Crash(5, []byte("x"))
	mustHave(t, d)
}
