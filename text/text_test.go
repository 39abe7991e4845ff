package text_test

import (
	"math/rand"
	"slices"
	"strings"
	"testing"

	"minstrel/api"
	"minstrel/text"
)

func checkSub(t *testing.T, s string, i, j int64, want string) {
	t.Helper()
	if got := text.Sub(s, i, j); got != want {
		t.Errorf("Sub(%.40q of %d bytes, %d, %d) = %.40q of %d, not %.40q of %d", s, len(s), i, j, got, len(got), want, len(want))
	}
}

func checkByte(t *testing.T, s string, i, want int64, is bool) {
	t.Helper()
	if got, ok := text.Byte(s, i); got != want || ok != is {
		t.Errorf("Byte(%.40q of %d bytes, %d) = %d, %t, not %d, %t", s, len(s), i, got, ok, want, is)
	}
}

func checkFind(t *testing.T, s, what string, from, want int64, is bool) {
	t.Helper()
	if got, ok := text.Find(s, what, from); got != want || ok != is {
		t.Errorf("Find(%.40q of %d bytes, %.40q of %d, %d) = %d, %t, not %d, %t", s, len(s), what, len(what), from, got, ok, want, is)
	}
}

func checkRep(t *testing.T, s string, n int64, want string, e api.Errno) {
	t.Helper()
	if got, err := text.Rep(s, n); got != want || err != e {
		t.Errorf("Rep(%.40q of %d bytes, %d) = %.40q of %d, %d, not %.40q of %d, %d", s, len(s), n, got, len(got), err, want, len(want), e)
	}
}

func checkJoin(t *testing.T, a, b, want string, e api.Errno) {
	t.Helper()
	if got, err := text.Join(a, b); got != want || err != e {
		t.Errorf("Join(%.40q of %d bytes, %.40q of %d) = %.40q of %d, %d, not %.40q of %d, %d", a, len(a), b, len(b), got, len(got), err, want, len(want), e)
	}
}

func checkLess(t *testing.T, a, b string, want bool) {
	t.Helper()
	if got := text.Less(a, b); got != want {
		t.Errorf("Less(%.40q of %d bytes, %.40q of %d) = %t", a, len(a), b, len(b), got)
	}
}

func checkChar(t *testing.T, n int64, want string, e api.Errno) {
	t.Helper()
	if got, err := text.Char(n); got != want || err != e {
		t.Errorf("Char(%d) = %q, %d, not %q, %d", n, got, err, want, e)
	}
}

// The chapter's examples.
func TestExamples(t *testing.T) {
	checkSub(t, "hello", -3, -2, "ll")
	checkFind(t, "aXbX", "X", 3, 4, true)
}

// P15.1
func TestSub(t *testing.T) {
	for _, x := range []struct {
		s    string
		i, j int64
		want string
	}{
		{"hello", 1, 5, "hello"}, {"hello", 2, 3, "el"}, {"hello", 1, 1, "h"}, {"hello", 5, 5, "o"}, {"hello", 3, 2, ""}, {"hello", 5, 1, ""},
		{"hello", 0, 0, ""}, {"hello", 0, 1, "h"}, {"hello", 0, 5, "hello"}, {"hello", 1, 0, ""}, {"hello", 5, 6, "o"}, {"hello", 6, 6, ""}, {"hello", 6, 5, ""}, {"hello", 1, 6, "hello"}, {"hello", 7, 9, ""},
		{"hello", -1, -1, "o"}, {"hello", -5, -5, "h"}, {"hello", -5, -1, "hello"}, {"hello", -6, -5, "h"}, {"hello", -6, -6, ""}, {"hello", 1, -6, ""}, {"hello", -6, 0, ""}, {"hello", -2, 4, "l"}, {"hello", 4, -1, "lo"}, {"hello", -1, -2, ""},
		{"hello", least, most, "hello"}, {"hello", most, least, ""}, {"hello", least, least, ""}, {"hello", most, most, ""}, {"hello", least, 2, "he"}, {"hello", 4, most, "lo"}, {"hello", least, -4, "he"}, {"hello", -1, most, "o"},
		{"hello", 1 << 32, 1<<32 + 5, ""}, {"hello", 1, 1<<32 + 2, "hello"}, {"hello", -1<<32 - 1, 2, "he"},
		{"", 0, 0, ""}, {"", 1, 1, ""}, {"", -1, -1, ""}, {"", 1, 0, ""}, {"", least, most, ""}, {"", -1, 1, ""},
		{"a", 1, 1, "a"}, {"a", -1, -1, "a"}, {"a", -1, 1, "a"}, {"a", 1, -1, "a"}, {"a", 2, 2, ""}, {"a", -2, -2, ""}, {"a", -2, 2, "a"},
		{"\xc3\xa4\x00", 2, 3, "\xa4\x00"}, {"\xff\x00\xff", -2, -1, "\x00\xff"},
	} {
		checkSub(t, x.s, x.i, x.j, x.want)
	}
	for _, s := range samples() {
		for _, i := range places(len(s)) {
			for _, j := range places(len(s)) {
				checkSub(t, s, i, j, subByWords(s, i, j))
			}
		}
	}
}

// P15.1: every place of texts of some bytes, told by both ways to count.
func TestSubEverywhere(t *testing.T) {
	whole := allBytes()
	for n := range 12 {
		s := whole[200 : 200+n]
		for i := int64(1); i <= int64(n); i++ {
			for j := i; j <= int64(n); j++ {
				want := s[i-1 : j]
				back := int64(n) + 1
				checkSub(t, s, i, j, want)
				checkSub(t, s, i-back, j, want)
				checkSub(t, s, i, j-back, want)
				checkSub(t, s, i-back, j-back, want)
			}
		}
	}
}

// P15.1
func TestByte(t *testing.T) {
	for _, x := range []struct {
		s    string
		i, n int64
		is   bool
	}{
		{"abc", 1, 97, true}, {"abc", 2, 98, true}, {"abc", 3, 99, true}, {"abc", 4, 0, false}, {"abc", 0, 0, false},
		{"abc", -1, 99, true}, {"abc", -2, 98, true}, {"abc", -3, 97, true}, {"abc", -4, 0, false}, {"abc", -5, 0, false},
		{"abc", least, 0, false}, {"abc", most, 0, false}, {"abc", 1<<32 + 1, 0, false}, {"abc", -1<<32 - 1, 0, false},
		{"", 0, 0, false}, {"", 1, 0, false}, {"", -1, 0, false}, {"", least, 0, false}, {"", most, 0, false},
		{"\x00", 1, 0, true}, {"\xff", 1, 255, true}, {"\x80", -1, 128, true}, {"\xc3\xa4", 2, 164, true},
	} {
		checkByte(t, x.s, x.i, x.n, x.is)
	}
	whole := allBytes()
	for c := int64(0); c < 256; c++ {
		checkByte(t, whole, c+1, c, true)
		checkByte(t, whole, c-256, c, true)
	}
	for _, s := range samples() {
		for _, i := range places(len(s)) {
			want, is := byteByWords(s, i)
			checkByte(t, s, i, want, is)
		}
	}
}

// P15.1
func TestFind(t *testing.T) {
	for _, x := range []struct {
		s, what string
		from    int64
		want    int64
		is      bool
	}{
		{"aXbX", "X", 1, 2, true}, {"aXbX", "X", 2, 2, true}, {"aXbX", "X", 4, 4, true}, {"aXbX", "X", 5, 0, false}, {"aXbX", "X", 6, 0, false},
		{"aXbX", "X", 0, 2, true}, {"aXbX", "X", -1, 4, true}, {"aXbX", "X", -2, 4, true}, {"aXbX", "X", -3, 2, true}, {"aXbX", "X", -4, 2, true}, {"aXbX", "X", -5, 2, true}, {"aXbX", "X", least, 2, true}, {"aXbX", "X", most, 0, false},
		{"aXbX", "aXbX", 1, 1, true}, {"aXbX", "aXbX", 2, 0, false}, {"aXbX", "aXbXa", 1, 0, false}, {"aXbX", "bX", 1, 3, true}, {"aXbX", "x", 1, 0, false}, {"aXbX", "Xa", 1, 0, false},
		{"aaaa", "aa", 2, 2, true}, {"aaaa", "aa", 3, 3, true}, {"aaaa", "aa", 4, 0, false}, {"aab", "ab", 1, 2, true}, {"abababc", "ababc", 1, 3, true},
		// an empty text stands at each place, and at the one behind the last
		{"ab", "", 1, 1, true}, {"ab", "", 2, 2, true}, {"ab", "", 3, 3, true}, {"ab", "", 4, 0, false}, {"ab", "", 0, 1, true}, {"ab", "", -1, 2, true}, {"ab", "", -2, 1, true}, {"ab", "", -3, 1, true}, {"ab", "", least, 1, true}, {"ab", "", most, 0, false}, {"ab", "", 1<<32 + 1, 0, false},
		{"", "", 1, 1, true}, {"", "", 0, 1, true}, {"", "", -1, 1, true}, {"", "", 2, 0, false}, {"", "", least, 1, true}, {"", "", most, 0, false},
		{"", "a", 1, 0, false}, {"", "a", 0, 0, false}, {"", "a", -1, 0, false}, {"", "a", 2, 0, false}, {"a", "a", 1, 1, true}, {"a", "a", 2, 0, false}, {"a", "a", -1, 1, true}, {"a", "", 2, 2, true},
		// a rune's second byte is a byte as any other, and signs of patterns are themselves
		{"\xc3\xa4\xa4", "\xa4", 1, 2, true}, {"a\x00b\x00", "\x00", 3, 4, true}, {"\xff\xfe", "\xfe", 1, 2, true}, {"a.b", ".", 1, 2, true}, {"ab", "%a", 1, 0, false}, {"\ufffd", "\xff", 1, 0, false},
	} {
		checkFind(t, x.s, x.what, x.from, x.want, x.is)
	}
	for _, s := range short(5, "a\xff") {
		for _, what := range short(4, "a\xff") {
			for _, from := range places(len(s)) {
				want, is := findByWords(s, what, from)
				checkFind(t, s, what, from, want, is)
			}
		}
	}
}

// soughtIn are texts that may stand in s: its own parts, some with a byte changed or one too many, and others.
func soughtIn(r *rand.Rand, s string) []string {
	l := []string{"", "a", "\x00", "\xff", "ab", "aa", s, s + "a", "a" + s}
	for range 6 {
		at := r.Intn(len(s) + 1)
		part := s[at : at+r.Intn(min(len(s)-at, 70)+1)]
		l = append(l, part, part+"a", "Z"+part)
		if part != "" {
			l = append(l, part[:len(part)-1]+"\x01")
		}
	}
	return append(l, s[len(s)/2:], s[:len(s)/2])
}

// P15.1, P15.4: what Find tells stands there, and at no place between from and it; where it tells none, there is none.
func TestFound(t *testing.T) {
	r := rand.New(rand.NewSource(154))
	for _, s := range samples() {
		for _, what := range soughtIn(r, s) {
			for _, from := range places(len(s)) {
				want, is := findByWords(s, what, from)
				checkFind(t, s, what, from, want, is)
				at, ok := text.Find(s, what, from)
				if ok && text.Sub(s, at, at+int64(len(what))-1) != what {
					t.Errorf("Find(%.40q of %d bytes, %.40q, %d) = %d, where it does not stand", s, len(s), what, from, at)
				}
			}
		}
	}
}

// P15.4, of every place ahead: Sub of as many bytes is another text.
func TestFoundFirst(t *testing.T) {
	for _, s := range short(7, "ab") {
		for _, what := range short(3, "ab") {
			if what == "" {
				// Sub of no bytes is the empty text everywhere, also where there is no place.
				continue
			}
			for from := int64(1); from <= int64(len(s))+2; from++ {
				at, is := text.Find(s, what, from)
				if !is {
					at = int64(len(s)) + 1
				}
				for p := from; p < at; p++ {
					if text.Sub(s, p, p+int64(len(what))-1) == what {
						t.Fatalf("Find(%q, %q, %d) = %d, %t, but it stands at %d", s, what, from, at, is, p)
					}
				}
			}
		}
	}
}

// P15.1: texts that nearly stand everywhere are found, or not, in good time.
func TestFindFar(t *testing.T) {
	as := strings.Repeat("a", 1<<20)
	half := as[:1<<19]
	checkFind(t, as+"b", half+"b", 1, 1<<19+1, true)
	checkFind(t, as+"b", half+"b", 1<<19+2, 0, false)
	checkFind(t, as, half+"b", 1, 0, false)
	checkFind(t, as, "b"+half, 1, 0, false)
	checkFind(t, as, half, 1<<19+1, 1<<19+1, true)
	checkFind(t, as, half, 1<<19+2, 0, false)
	checkFind(t, as, half, -1<<19, 1<<19+1, true)
	checkFind(t, as, half, -1<<19+1, 0, false)
}

// P15.2
func TestRep(t *testing.T) {
	for _, x := range []struct {
		s    string
		n    int64
		want string
	}{
		{"ab", 0, ""}, {"ab", -1, ""}, {"ab", least, ""}, {"ab", 1, "ab"}, {"ab", 2, "abab"}, {"ab", 3, "ababab"}, {"x", 5, "xxxxx"}, {"\x00\xff", 2, "\x00\xff\x00\xff"},
		// the empty text is never too long
		{"", 0, ""}, {"", 1, ""}, {"", -1, ""}, {"", 16385, ""}, {"", 1 << 31, ""}, {"", 1 << 62, ""}, {"", most, ""}, {"", least, ""},
	} {
		checkRep(t, x.s, x.n, x.want, api.OK)
	}
}

// P15.2: as many bytes as a text may have, and one time more.
func TestRepMost(t *testing.T) {
	for _, size := range []int{1, 2, 3, 4, 5, 7, 16, 127, 128, 129, 1000, 5461, 5462, 8191, 8192, 8193, 16383, 16384} {
		s := strings.Repeat("xyz", size)[:size]
		n := int64(16384 / size)
		checkRep(t, s, n, strings.Repeat(s, int(n)), api.OK)
		checkRep(t, s, n+1, "", api.ErrLong)
		checkRep(t, s, n+2, "", api.ErrLong)
		checkRep(t, s, 16385, "", api.ErrLong)
	}
	for _, size := range []int{16385, 20000, 1 << 20} {
		s := strings.Repeat("x", size)
		checkRep(t, s, 1, "", api.ErrLong)
		checkRep(t, s, 2, "", api.ErrLong)
		checkRep(t, s, most, "", api.ErrLong)
		// none at all is not too long, however long one of them would be
		checkRep(t, s, 0, "", api.OK)
		checkRep(t, s, -1, "", api.OK)
		checkRep(t, s, least, "", api.OK)
	}
}

// P15.2: numbers of times so great that a product of 32 or 64 bits would come out small again, or below 0.
func TestRepGreat(t *testing.T) {
	for _, size := range []int{1, 2, 3, 4, 5, 6, 7, 8, 16, 100, 255, 256, 1024, 4096, 16384} {
		s := strings.Repeat("q", size)
		l := []int64{1 << 16, 1 << 31, 1<<31 + 1, 1 << 32, 1<<32 + 1, 1 << 33, 1 << 48, 1 << 61, 1 << 62, 1<<62 + 1, most - 1, most}
		for _, bits := range []uint{32, 63} {
			n := int64(1<<bits/uint64(size)) + 1
			l = append(l, n-2, n, 2*n)
		}
		for _, n := range l {
			// 2^63 and more has become a number below 0.
			if n > 16384 {
				checkRep(t, s, n, "", api.ErrLong)
			}
		}
	}
	checkRep(t, "abc", 0x5555555555555556, "", api.ErrLong) // 2^64 and 2
	checkRep(t, "abcd", 1<<62, "", api.ErrLong)             // 2^64
	checkRep(t, "abcd", 1<<62+1, "", api.ErrLong)           // 2^64 and 4
	checkRep(t, "abcd", 1<<30, "", api.ErrLong)             // 2^32
}

// P15.5
func TestAgain(t *testing.T) {
	for _, s := range samples() {
		for _, n := range []int64{1, 2, 3, 4, 5, 9, 100, 4000, 16384} {
			if int64(len(s))*n > 16384 {
				checkRep(t, s, n, "", api.ErrLong)
				continue
			}
			got, e := text.Rep(s, n)
			if e != api.OK || int64(len(got)) != n*int64(len(s)) {
				t.Errorf("Rep(%.40q of %d bytes, %d) has %d bytes, %d", s, len(s), n, len(got), e)
				continue
			}
			for k := range len(got) {
				if got[k] != s[k%len(s)] {
					t.Errorf("Rep(%.40q of %d bytes, %d) has %d at %d", s, len(s), n, got[k], k)
					break
				}
			}
		}
	}
}

// P15.2
func TestJoin(t *testing.T) {
	checkJoin(t, "", "", "", api.OK)
	checkJoin(t, "a", "", "a", api.OK)
	checkJoin(t, "", "b", "b", api.OK)
	checkJoin(t, "ab", "cd", "abcd", api.OK)
	checkJoin(t, "\xc3", "\xa4\x00", "\xc3\xa4\x00", api.OK)
	for _, a := range samples() {
		for _, b := range samples() {
			want, e := slices.Concat([]byte(a), []byte(b)), api.OK
			if len(want) > 16384 {
				want, e = nil, api.ErrLong
			}
			checkJoin(t, a, b, string(want), e)
		}
	}
}

// P15.2: as many bytes as a text may have, and one more, however they are shared out.
func TestJoinMost(t *testing.T) {
	x := strings.Repeat("x", 16384)
	y := strings.Repeat("y", 16384)
	for _, n := range []int{0, 1, 2, 100, 8191, 8192, 8193, 16382, 16383, 16384} {
		checkJoin(t, x[:n], y[n:], x[:n]+y[n:], api.OK)
		checkJoin(t, x[:n]+"a", y[n:], "", api.ErrLong)
		checkJoin(t, x[:n], y[n:]+"a", "", api.ErrLong)
	}
	checkJoin(t, x, y, "", api.ErrLong)
	checkJoin(t, x+"a", "", "", api.ErrLong)
	checkJoin(t, "", y+"a", "", api.ErrLong)
	checkJoin(t, x+x, y, "", api.ErrLong)
}

// P15.3
func TestCut(t *testing.T) {
	for _, s := range samples() {
		n := int64(len(s))
		step := max(n/100, 1)
		for i := int64(0); i <= n; i += step {
			head, rest := text.Sub(s, 1, i), text.Sub(s, i+1, n)
			if int64(len(head)) != i || head+rest != s {
				t.Errorf("Sub of %.40q of %d bytes, cut at %d: %d and %d bytes", s, n, i, len(head), len(rest))
			}
			if n <= 16384 {
				checkJoin(t, head, rest, s, api.OK)
			}
		}
		checkSub(t, s, 1, n, s)
		checkSub(t, s, n+1, n, "")
	}
}

// P15.2
func TestLess(t *testing.T) {
	for _, x := range []struct {
		a, b string
		want bool
	}{
		{"", "", false}, {"", "a", true}, {"a", "", false}, {"", "\x00", true}, {"a", "a", false}, {"a", "b", true}, {"b", "a", false},
		{"a", "ab", true}, {"ab", "a", false}, {"ab", "b", true}, {"b", "ab", false}, {"abc", "abd", true}, {"abd", "abc", false}, {"a", "a\x00", true}, {"a\x00", "a", false}, {"a\x00", "aa", true},
		// bytes from 128 on are above all others, and letters are ordered as bytes
		{"z", "\x80", true}, {"\x80", "z", false}, {"\x7f", "\x80", true}, {"\x80", "\xff", true}, {"\xff", "\x00", false}, {"\x00", "\xff", true}, {"a\xff", "b", true}, {"a\xff", "ab", false},
		{"Z", "a", true}, {"a", "Z", false}, {"10", "9", true}, {"\xc3\xa4", "z", false}, {"\ue000", "\U00010000", true}, {"\xff", "\U00010000", false},
	} {
		checkLess(t, x.a, x.b, x.want)
	}
	l := append(short(3, "a\x00\x80\xff"), samples()...)
	for _, a := range l {
		for _, b := range l {
			checkLess(t, a, b, lessByWords(a, b))
		}
	}
	whole := allBytes()
	for i := range 256 {
		for j := range 256 {
			checkLess(t, whole[i:i+1], whole[j:j+1], i < j)
			checkLess(t, "x"+whole[i:i+1]+"b", "x"+whole[j:j+1]+"a", i < j)
		}
	}
}

// P15.2: long texts that differ in their last byte, or not at all.
func TestLessLong(t *testing.T) {
	x := strings.Repeat("x", 1<<16)
	checkLess(t, x, x, false)
	checkLess(t, x, strings.Clone(x), false)
	checkLess(t, x, x+"\x00", true)
	checkLess(t, x+"\x00", x, false)
	checkLess(t, x+"a", x+"\x80", true)
	checkLess(t, x+"\x80", x+"a", false)
}

// P15.2
func TestChar(t *testing.T) {
	whole := allBytes()
	for n := range 256 {
		checkChar(t, int64(n), whole[n:n+1], api.OK)
		if back, is := text.Byte(whole[n:n+1], 1); back != int64(n) || !is {
			t.Errorf("Byte of Char(%d) = %d, %t", n, back, is)
		}
	}
	for n := int64(1); n <= 1000; n++ {
		checkChar(t, -n, "", api.ErrArg)
		checkChar(t, 255+n, "", api.ErrArg)
	}
	for shift := 8; shift < 64; shift++ {
		checkChar(t, 1<<shift, "", api.ErrArg)
		checkChar(t, 1<<shift|'A', "", api.ErrArg)
		checkChar(t, -1<<shift, "", api.ErrArg)
		checkChar(t, -1<<shift|'A', "", api.ErrArg)
	}
	for _, n := range []int64{least, least + 65, most, most - 1} {
		checkChar(t, n, "", api.ErrArg)
	}
}

// P15.2
func TestUpper(t *testing.T) {
	for _, x := range [][2]string{
		{"", ""}, {"a", "A"}, {"z", "Z"}, {"hello", "HELLO"}, {"Hello, World 1", "HELLO, WORLD 1"}, {"@AZ[`az{", "@AZ[`AZ{"},
		{"\xe4", "\xe4"}, {"a\xe4z", "A\xe4Z"}, {"\xc3\xa4", "\xc3\xa4"}, {"\u00ff\u0131\u017f", "\u00ff\u0131\u017f"}, {"\x00a\xff", "\x00A\xff"}, {"\xe1\xfa", "\xe1\xfa"},
	} {
		if got := text.Upper(x[0]); got != x[1] {
			t.Errorf("Upper(%q) = %q, not %q", x[0], got, x[1])
		}
	}
	for _, s := range samples() {
		got := text.Upper(s)
		if got != upperByWords(s) {
			t.Errorf("Upper(%.40q of %d bytes) = %.40q of %d", s, len(s), got, len(got))
		}
		if text.Upper(got) != got {
			t.Errorf("Upper of Upper(%.40q of %d bytes) is another", s, len(s))
		}
	}
}

// P15.2
func TestReverse(t *testing.T) {
	for _, x := range [][2]string{
		{"", ""}, {"a", "a"}, {"ab", "ba"}, {"abc", "cba"}, {"abcd", "dcba"}, {"aa", "aa"}, {"a\x00", "\x00a"}, {"\xc3\xa4", "\xa4\xc3"}, {"\xff\xfe\xfd", "\xfd\xfe\xff"},
	} {
		if got := text.Reverse(x[0]); got != x[1] {
			t.Errorf("Reverse(%q) = %q, not %q", x[0], got, x[1])
		}
	}
	for _, s := range samples() {
		got := text.Reverse(s)
		if got != reverseByWords(s) {
			t.Errorf("Reverse(%.40q of %d bytes) = %.40q of %d", s, len(s), got, len(got))
		}
		if text.Reverse(got) != s {
			t.Errorf("Reverse of Reverse(%.40q of %d bytes) is another", s, len(s))
		}
	}
}

// anyPlace is a number by chance of any length, or one about n, of both signs.
func anyPlace(r *rand.Rand, n int) int64 {
	if r.Intn(2) == 0 {
		return int64(r.Uint64()) >> r.Intn(64)
	}
	return int64(r.Intn(2*n+7) - n - 3)
}

// No call panics, and all answer what the chapter's words say, at any arguments: P15.1, P15.2.
func TestAnyArguments(t *testing.T) {
	r := rand.New(rand.NewSource(151))
	for range 30000 {
		s, what := anyBytes(r, r.Intn(40), r.Intn(2) == 0), anyBytes(r, r.Intn(4), true)
		i, j := anyPlace(r, len(s)), anyPlace(r, len(s))
		checkSub(t, s, i, j, subByWords(s, i, j))
		n, is := byteByWords(s, i)
		checkByte(t, s, i, n, is)
		at, is := findByWords(s, what, i)
		checkFind(t, s, what, i, at, is)
		checkLess(t, s, what, lessByWords(s, what))
		checkJoin(t, s, what, s+what, api.OK)
		if text.Upper(s) != upperByWords(s) || text.Reverse(s) != reverseByWords(s) {
			t.Errorf("Upper(%q) = %q, Reverse %q", s, text.Upper(s), text.Reverse(s))
		}
		if i < 0 || i > 255 {
			checkChar(t, i, "", api.ErrArg)
		}
		mustRepAsWords(t, s, i)
	}
}

// mustRepAsWords: Rep is s so many times, one behind the other, till that would be too long.
func mustRepAsWords(t *testing.T, s string, n int64) {
	t.Helper()
	var b []byte
	for k := int64(0); k < n && s != ""; k++ {
		if b = append(b, s...); len(b) > 16384 {
			checkRep(t, s, n, "", api.ErrLong)
			return
		}
	}
	checkRep(t, s, n, string(b), api.OK)
}
