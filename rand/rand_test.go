package rand_test

import (
	"math"
	chances "math/rand"
	"strings"
	"testing"
	"testing/quick"

	"minstrel/api"
	"minstrel/rand"
)

func checkNext(t *testing.T, s, state, x uint64) {
	t.Helper()
	if gotState, got := rand.Next(s); gotState != state || got != x {
		t.Errorf("Next(%x) = %x, %x, not %x, %x", s, gotState, got, state, x)
	}
}

func checkBelow(t *testing.T, s, n, state, x uint64) {
	t.Helper()
	if gotState, got := rand.Below(s, n); gotState != state || got != x {
		t.Errorf("Below(%x, %x) = %x, %x, not %x, %x", s, n, gotState, got, state, x)
	}
}

func checkUnit(t *testing.T, s, state uint64, x api.Num) {
	t.Helper()
	if gotState, got := rand.Unit(s); gotState != state || got != x {
		t.Errorf("Unit(%x) = %x, %x, not %x, %x", s, gotState, got, state, x)
	}
}

func checkSeed(t *testing.T, s string, want uint64) {
	t.Helper()
	if got := rand.Seed(s); got != want {
		t.Errorf("Seed(%.40q of %d bytes) = %x, not %x", s, len(s), got, want)
	}
}

// The chapter's example.
func TestExample(t *testing.T) {
	checkNext(t, 0, 0x9e3779b97f4a7c15, 0xe220a8397b1dcdaf)
}

// P16.1: numbers reckoned apart from the program, five behind one another.
func TestNextReckoned(t *testing.T) {
	for _, x := range []struct {
		s    uint64
		want [5]uint64
	}{
		{0, [5]uint64{0xe220a8397b1dcdaf, 0x6e789e6aa1b965f4, 0x06c45d188009454f, 0xf88bb8a8724c81ec, 0x1b39896a51a8749b}},
		{1, [5]uint64{0x910a2dec89025cc1, 0xbeeb8da1658eec67, 0xf893a2eefb32555e, 0x71c18690ee42c90b, 0x71bb54d8d101b5b9}},
		{most, [5]uint64{0xe4d971771b652c20, 0xe99ff867dbf682c9, 0x382ff84cb27281e9, 0x6d1db36ccba982d2, 0xb4a0472e578069ae}},
		{1234567, [5]uint64{6457827717110365317, 3203168211198807973, 9817491932198370423, 4593380528125082431, 16408922859458223821}},
		{step, [5]uint64{0x6e789e6aa1b965f4, 0x06c45d188009454f, 0xf88bb8a8724c81ec, 0x1b39896a51a8749b, 0x53cb9f0c747ea2ea}},
		{step - 1, [5]uint64{0xe99ff867dbf682c9, 0x382ff84cb27281e9, 0x6d1db36ccba982d2, 0xb4a0472e578069ae, 0xd31dadbda438bb33}},
		{step + 1, [5]uint64{0xbeeb8da1658eec67, 0xf893a2eefb32555e, 0x71c18690ee42c90b, 0x71bb54d8d101b5b9, 0xc34d0bff90150280}},
		{0x61c8864680b583eb, [5]uint64{0, 0xe220a8397b1dcdaf, 0x6e789e6aa1b965f4, 0x06c45d188009454f, 0xf88bb8a8724c81ec}},
		{0x61c8864680b583ea, [5]uint64{0xb4d055fcf2cbbd7b, 0xe4d971771b652c20, 0xe99ff867dbf682c9, 0x382ff84cb27281e9, 0x6d1db36ccba982d2}},
		{0x61c8864680b583ec, [5]uint64{0x5692161d100b05e5, 0x910a2dec89025cc1, 0xbeeb8da1658eec67, 0xf893a2eefb32555e, 0x71c18690ee42c90b}},
		{1 << 63, [5]uint64{0x481ec0a212a9f3db, 0xc46fa638a6309012, 0x61a685ffc80a8140, 0x592e268383e356f9, 0x0c8881ee746884d3}},
	} {
		s := x.s
		for _, want := range x.want {
			checkNext(t, s, s+step, want)
			s += step
		}
	}
}

// P16.1: all edges, and states by chance, against the words.
func TestNextByWords(t *testing.T) {
	for _, s := range append(edges(), chance(161, 20000)...) {
		state, x := nextByWords(s)
		checkNext(t, s, state, x)
	}
}

// P16.2: of n 0 no number is taken, and the state stays.
func TestBelowNought(t *testing.T) {
	for _, s := range append(edges(), chance(162, 1000)...) {
		checkBelow(t, s, 0, s, 0)
	}
}

// P16.2
func TestBelowReckoned(t *testing.T) {
	for _, x := range []struct{ s, n, state, x uint64 }{
		{5, 0, 5, 0},
		{0, 1, step, 0},
		{0, 2, step, 1},
		{0, 16, step, 15},
		{0, 10, step, 5}, // e220a8397b1dcdaf is 16294208416658607535
		{1234567, 10, 1234567 + step, 7},
		{1234567, 1000, 1234567 + step, 317},
		{0, 1 << 63, step, 0x6220a8397b1dcdaf},
		{0, most, step, 0xe220a8397b1dcdaf},
		{0, 1<<63 + 1, 2 * step, 0x6e789e6aa1b965f4},          // the first lies beyond n
		{0, 0xe220a8397b1dcdaf, 2 * step, 0x6e789e6aa1b965f4}, // the first is n itself
		{0, 0xe220a8397b1dcdb0, step, 0xe220a8397b1dcdaf},     // the first is one less
		{2 * step, 1<<63 + 1, 3 * step, 0x06c45d188009454f},
		{3 * step, 1<<63 + 1, 5 * step, 0x1b39896a51a8749b},
		{1, 1<<63 + 1, 1 + 4*step, 0x71c18690ee42c90b}, // three are passed over
		{0, 3 << 62, 2 * step, 0x6e789e6aa1b965f4},
		{0, 1<<62 + 1, 2 * step, 0x6e789e6aa1b965f4 - (1<<62 + 1)}, // three times n is the greatest product
	} {
		checkBelow(t, x.s, x.n, x.state, x.x)
	}
}

// belowNumbers are the n of which Below is asked: each power of two and its neighbours, and all that divides 2^64 with a small, a middling and a great rest.
func belowNumbers() []uint64 {
	l := []uint64{0, 1, 2, 3, 5, 6, 7, 9, 10, 100, 641, 6700417, most, most - 1, most - 2, most / 2, most / 3, most/3 + 1, most/3 + 2, 3 << 62, 5 << 61, 3<<62 - 1, 3<<62 + 1, 0xaaaaaaaaaaaaaaab}
	for k := range 64 {
		l = append(l, 1<<k-1, 1<<k, 1<<k+1)
	}
	return append(l, chance(163, 100)...)
}

// P16.2, P16.5: all such n, at states by chance, against the words.
func TestBelowByWords(t *testing.T) {
	states := append([]uint64{0, 1, most, step, -step, -step - 1, -step + 1}, chance(164, 40)...)
	passed := 0
	for _, n := range belowNumbers() {
		for _, s := range states {
			state, x, taken := belowByWords(s, n)
			checkBelow(t, s, n, state, x)
			if taken > 1 {
				passed++
			}
		}
	}
	if passed < 100 {
		t.Errorf("numbers were passed over %d times only", passed)
	}
}

// P16.2: the first number lies right at the greatest product of n, next to it, or at either end of all numbers.
func TestBelowAtTheProduct(t *testing.T) {
	for _, n := range belowNumbers() {
		if n == 0 {
			continue
		}
		whole := most / n * n // the greatest product that fits
		if most-whole == n-1 {
			whole += n // 2^64 itself, which is 0 here
		}
		for _, x := range []uint64{whole - 2, whole - 1, whole, whole + 1, 0, 1, n - 1, n, n + 1, most - 1, most} {
			s := stateAhead(x)
			if whole == 0 || x < whole {
				checkBelow(t, s, n, s+step, x%n)
				continue
			}
			state, got := rand.Below(s, n)
			if state == s+step {
				t.Errorf("Below(%x, %x) takes %x, beyond %x", s, n, x, whole)
			}
			state2, got2 := rand.Below(s+step, n)
			if state != state2 || got != got2 {
				t.Errorf("Below(%x, %x) = %x, %x; behind the number that is passed over %x, %x", s, n, state, got, state2, got2)
			}
		}
	}
}

// P16.2: n just beyond 2^63, so that about each second number is passed over, often many behind one another.
func TestBelowPassesOver(t *testing.T) {
	longest := 0
	for i, s := range chance(165, 4000) {
		n := 1<<63 + 1 + uint64(i)<<(i%40)
		state, x, taken := belowByWords(s, n)
		checkBelow(t, s, n, state, x)
		longest = max(longest, taken)
	}
	if longest < 8 {
		t.Errorf("at most %d numbers were taken", longest)
	}
}

// P16.2: Unit at numbers whose highest 53 bits are all 0, all 1, and others.
func TestUnitReckoned(t *testing.T) {
	for _, x := range []struct {
		x    uint64
		want float64
	}{
		{0, 0}, {1, 0}, {1<<11 - 1, 0}, {1 << 11, 0x1p-53}, {1<<12 - 1, 0x1p-53}, {1 << 12, 0x1p-52}, {3 << 11, 0x3p-53},
		{most, 1 - 0x1p-53}, {most - 1<<11 + 1, 1 - 0x1p-53}, {most - 1<<11, 1 - 0x1p-52},
		{1 << 63, 0.5}, {1<<63 + 1<<11 - 1, 0.5}, {1<<63 + 1<<11, 0.5 + 0x1p-53}, {1<<63 - 1, 0.5 - 0x1p-53},
		{1 << 62, 0.25}, {3 << 62, 0.75}, {5 << 61, 0.625}, {1 << 11 * (1<<52 - 1), 0.5 - 0x1p-53},
	} {
		s := stateAhead(x.x)
		checkUnit(t, s, s+step, api.Num(math.Float64bits(x.want)))
	}
	checkUnit(t, 0, step, 0x3fec4415072f63b9)
	checkUnit(t, -step, 0, 0)
}

// P16.2, P16.5: Unit against the words, and that it is from 0 to less than 1.
func TestUnitByWords(t *testing.T) {
	states := append(edges(), chance(166, 10000)...)
	for _, x := range append(edges(), chance(167, 5000)...) {
		states = append(states, stateAhead(x))
	}
	for _, s := range states {
		state, x := unitByWords(s)
		checkUnit(t, s, state, x)
		_, u := rand.Unit(s)
		if f := math.Float64frombits(uint64(u)); !(f >= 0 && f < 1) || math.Signbit(f) {
			t.Errorf("Unit(%x) = %g", s, f)
		}
	}
}

// P16.3
func TestSeedReckoned(t *testing.T) {
	for s, want := range map[string]uint64{
		"": 0, "\x00": 0xe220a8397b1dcdaf, "\x00\x00": 0xa706dd2f4d197e6f, "\x01": 0x910a2dec89025cc1,
		"a": 0x4f5da978776a9db1, "b": 0xf0eea8c8a0607d15, "ab": 0xfa0622974cb079fb, "ba": 0x641784e4ecb806d0, "minstrel": 0x04ca57d4ff9618b9,
		"\x80": 0xabf42acc138fedbe, "\xff": 0x338c507146283fb4, "\xe4": 0x84dcc1c7b6773c56, "\xc3\xa4": 0x4379d1f329271cc3,
	} {
		checkSeed(t, s, want)
	}
}

// P16.3: each byte alone, each behind another one, runes of several bytes and bytes that are none, long texts.
func TestSeedByWords(t *testing.T) {
	for a := range 256 {
		checkSeed(t, string([]byte{byte(a)}), seedByWords(string([]byte{byte(a)})))
		for _, b := range []byte{0, 1, 'a', 127, 128, 255, byte(a)} {
			s := string([]byte{byte(a), b})
			checkSeed(t, s, seedByWords(s))
		}
	}
	for _, s := range []string{
		"ä", "äöü", "日本語", "\u2028", "\ufffd", "\U0001f3b5", "\xed\xa0\x80", "\xf8\x88\x80\x80\x80", "\x80\x80", "\xffa\xff", "a\x00b", "a\x00", "\x00a", "\r\n", "\n",
		strings.Repeat("\x00", 3000), strings.Repeat("a", api.MaxText), strings.Repeat("\xff", api.MaxText+1), strings.Repeat("äb", 5000),
	} {
		checkSeed(t, s, seedByWords(s))
	}
	for i, x := range chance(168, 200) {
		b := make([]byte, i)
		for k := range b {
			x, b[k] = x*step+1, byte(x>>56)
		}
		checkSeed(t, string(b), seedByWords(string(b)))
	}
}

// P16.3: texts that differ in one byte, in their order, in a byte more or fewer, are unlike seeds here.
func TestSeedsDiffer(t *testing.T) {
	seen := map[uint64]string{}
	add := func(s string) {
		h := rand.Seed(s)
		if was, is := seen[h]; is {
			t.Errorf("Seed(%q) and Seed(%q) are both %x", was, s, h)
		}
		seen[h] = s
	}
	add("")
	for a := range 256 {
		add(string([]byte{byte(a)}))
		for b := range 256 {
			add(string([]byte{byte(a), byte(b)}))
		}
	}
}

// P16.4: what Next does can be undone, so that each number is told of one state alone.
func TestNextUndone(t *testing.T) {
	for _, s := range append(edges(), chance(169, 50000)...) {
		if _, x := rand.Next(s); stateAhead(x) != s {
			t.Errorf("Next(%x) tells %x, which is that of %x", s, x, stateAhead(x))
		}
	}
	for _, x := range append(edges(), chance(170, 50000)...) {
		s := stateAhead(x)
		checkNext(t, s, s+step, x)
	}
}

// P16.4: states in a row, states behind one another, and states that differ in few bits tell numbers that are all different.
func TestOneToOne(t *testing.T) {
	seen := map[uint64]uint64{}
	add := func(s uint64) {
		_, x := rand.Next(s)
		if was, is := seen[x]; is && was != s {
			t.Errorf("Next(%x) and Next(%x) both tell %x", was, s, x)
		}
		seen[x] = s
	}
	s := uint64(1 << 40)
	for i := range uint64(100000) {
		add(i)
		add(-i)
		add(i << 32)
		add(s)
		s, _ = rand.Next(s)
	}
	for a := range 64 {
		for b := range a {
			for c := range b {
				add(1<<a | 1<<b | 1<<c)
			}
			add(1<<a | 1<<b)
		}
		add(1 << a)
	}
}

// P16.5
func TestBelowIsBelow(t *testing.T) {
	numbers := belowNumbers()
	for i, s := range chance(171, 100000) {
		n := numbers[i%len(numbers)]
		if _, x := rand.Below(s, n); n > 0 && x >= n {
			t.Errorf("Below(%x, %x) = %x", s, n, x)
		}
	}
}

// P16.5: of a small n each number comes, about as often as any other.
func TestBelowTellsAll(t *testing.T) {
	for n := uint64(1); n <= 40; n++ {
		seen := map[uint64]int{}
		s := n
		for range 1000 * n {
			var x uint64
			s, x = rand.Below(s, n)
			seen[x]++
		}
		for x := range n {
			if seen[x] < 850 || seen[x] > 1150 {
				t.Errorf("%d comes %d times of %d, below %d", x, seen[x], 1000*n, n)
			}
		}
	}
}

// P16.6: one number is taken, and its lowest bits are told, whatever number it is.
func TestPowers(t *testing.T) {
	states := append([]uint64{0, 1, most}, chance(172, 200)...)
	for _, x := range []uint64{0, 1, most, most - 1, 1 << 63, 1<<63 - 1} {
		states = append(states, stateAhead(x))
	}
	for k := range 64 {
		for _, s := range states {
			state, x := nextByWords(s)
			checkBelow(t, s, 1<<k, state, x<<(63-k)<<1>>(63-k)>>1)
		}
	}
}

// DOC.md, Ends, From arguments alone: whatever is handed in, no call panics, and what it tells hangs on that alone.
func TestAnyArguments(t *testing.T) {
	same := func(s, n uint64, text string) bool {
		a1, a2 := rand.Next(s)
		b1, b2 := rand.Below(s, n)
		c1, c2 := rand.Unit(s)
		d := rand.Seed(text)
		rand.Seed(text + "a")
		rand.Below(n, s)
		e1, e2 := rand.Next(s)
		f1, f2 := rand.Below(s, n)
		g1, g2 := rand.Unit(s)
		return a1 == e1 && a2 == e2 && b1 == f1 && b2 == f2 && c1 == g1 && c2 == g2 && d == rand.Seed(text) && a1 == c1
	}
	if err := quick.Check(same, &quick.Config{MaxCount: 5000, Rand: chances.New(chances.NewSource(173))}); err != nil {
		t.Error(err)
	}
	for _, s := range edges() {
		for _, n := range edges() {
			if !same(s, n, "") {
				t.Errorf("state %x and n %x are not told the same twice", s, n)
			}
		}
	}
}
