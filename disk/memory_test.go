package disk_test

import (
	"math/rand"
	"reflect"
	"slices"
	"testing"

	"minstrel/disk"
)

// spare is bytes with spare room in which something stands.
func spare(s string) []byte {
	return append(append(make([]byte, 0, len(s)+9), s...), "the spare"...)[:len(s)]
}

// mustBeAsWas holds bytes that were handed in, their spare room too, against what they were.
func mustBeAsWas(t *testing.T, b []byte, s string) {
	t.Helper()
	if string(b[:len(s)+9]) != s+"the spare" {
		t.Errorf("what was handed in is now %q", b[:len(s)+9])
	}
}

// overwrite changes all of a list, its spare room too.
func overwrite[T any](l []T, with T) {
	l = l[:cap(l)]
	for i := range l {
		l[i] = with
	}
}

// Rules (Memory): what is handed in to Append and to Crash is neither changed nor kept.
func TestHandedIn(t *testing.T) {
	for _, s := range []string{"", "x", "abc", "a longer text than the others are"} {
		d := made(t, 200)
		b, c, tail := spare(s), spare(s), spare(s)
		if d.Append("a", b) != 0 || d.Append("a", c) != 0 || d.Append("b", b) != 0 || d.Sync("a") != 0 {
			t.Error("refused")
		}
		mustBeAsWas(t, b, s)
		mustBeAsWas(t, c, s)
		files := []laid{{"a", s + s, 2 * len(s)}, {"b", s, 0}}
		mustHave(t, d, files...)
		overwrite(b, '!')
		overwrite(c, '?')
		mustHave(t, d, files...)
		must(t, d, add("a", "12"), add("b", "3456"), truncate("a", len(s)), add("a", "789"))
		if string(b[:cap(b)]) != string(slices.Repeat([]byte("!"), cap(b))) || string(c[:cap(c)]) != string(slices.Repeat([]byte("?"), cap(c))) {
			t.Errorf("%q, %q", b[:cap(b)], c[:cap(c)])
		}
		d.Crash(1, tail)
		mustBeAsWas(t, tail, s)
		files = []laid{{"a", s + "7" + s, 2*len(s) + 1}, {"b", part(s+"3", 1) + s, len(s) + 1}}
		mustHave(t, d, files...)
		overwrite(tail, '!')
		mustHave(t, d, files...)
		must(t, d, add("a", "z"), add("b", "z"))
		if string(tail[:cap(tail)]) != string(slices.Repeat([]byte("!"), cap(tail))) {
			t.Errorf("%q", tail[:cap(tail)])
		}
	}
}

// Rules (Memory): what Read answers is not the file itself, nor what another Read answers, nor is what Names answers.
func TestHandedOut(t *testing.T) {
	for _, s := range []string{"", "x", "abc", "a longer text than the others are"} {
		d := made(t, 200)
		must(t, d, add("a", ""))
		for i := range s {
			must(t, d, add("a", s[i:i+1]))
		}
		must(t, d, sync("a"), add("a", "d"), add("b", s), truncate("a", len(s)))
		files := []laid{{"a", s, len(s)}, {"b", s, 0}}
		one, _ := d.Read("a")
		two, _ := d.Read("a")
		names, more := d.Names(), d.Names()
		mustShareNone(t, one, two)
		mustShareNone(t, names, more)
		overwrite(one, '!')
		overwrite(names, "!")
		mustHave(t, d, files...)
		if string(two) != s || !slices.Equal(more, []string{"a", "b"}) {
			t.Errorf("%q, %q", two, more)
		}
		must(t, d, add("a", "ef"), truncate("a", 0), add("a", "ghi"))
		d.Crash(1, []byte("j"))
		if string(two) != s || !slices.Equal(more, []string{"a", "b"}) {
			t.Errorf("behind other calls: %q, %q", two, more)
		}
		for i := range one {
			if one[i] != '!' {
				t.Errorf("%q", one)
			}
		}
	}
}

// mustShareNone tells whether two lists lie apart, with their spare room.
func mustShareNone[T any](t *testing.T, a, b []T) {
	t.Helper()
	if cap(a) == 0 || cap(b) == 0 {
		return
	}
	size := reflect.TypeFor[T]().Size()
	i, j := reflect.ValueOf(a).Pointer(), reflect.ValueOf(b).Pointer()
	if i < j+uintptr(cap(b))*size && j < i+uintptr(cap(a))*size {
		t.Errorf("%v and %v share memory", a, b)
	}
}

// Rules (Memory): files have bytes of their own, however they came to them.
func TestFilesApart(t *testing.T) {
	d := made(t, 1000)
	text := spare("abc")
	for _, s := range []string{"a", "b", "c"} {
		if d.Append(s, text) != 0 {
			t.Error(s)
		}
	}
	must(t, d, truncate("a", 1), add("a", "x"), truncate("b", 1), add("b", "y"))
	mustHave(t, d, laid{"a", "ax", 0}, laid{"b", "ay", 0}, laid{"c", "abc", 0})
	d.Crash(1, text)
	must(t, d, truncate("a", 2), add("a", "1"), truncate("b", 2), add("b", "2"), truncate("c", 2), add("c", "3"))
	mustHave(t, d, laid{"a", "aa1", 2}, laid{"b", "aa2", 2}, laid{"c", "aa3", 2})
	mustBeAsWas(t, text, "abc")
	must(t, d, rename("a", "d"), add("a", "new"), rename("b", "e"), add("b", "newer"))
	mustHave(t, d, laid{"a", "new", 0}, laid{"b", "newer", 0}, laid{"c", "aa3", 2}, laid{"d", "aa1", 2}, laid{"e", "aa2", 2})
}

// Rules (From arguments alone): two disks know nothing of one another, and the same calls come to the same.
func TestApart(t *testing.T) {
	for seed := range 100 {
		disks, models := [3]*disk.Disk{}, [3]words{}
		m := maker{rand.New(rand.NewSource(int64(seed))), []string{"a", "b", "c", "B"}, 5, 10}
		for i := range disks {
			disks[i], models[i] = made(t, 30+i), newByWords(30+i)
		}
		for range 60 {
			i, a := m.Intn(3), m.act()
			models[i] = hold(t, disks[i], models[i], a)
			for j := range disks {
				mustHave(t, disks[j], models[j].files...)
			}
		}
	}
}
