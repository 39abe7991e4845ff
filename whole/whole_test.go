package whole_test

import (
	"math"
	"math/big"
	"math/bits"
	"math/rand"
	"slices"
	"testing"

	"minstrel/api"
	"minstrel/flo"
	"minstrel/sum"
	"minstrel/whole"
)

const (
	low  = api.Num(1) << 63 // the nought below 0, and the sign's bit
	one  = api.Num(0x3ff0000000000000)
	most = api.Num(0x7fefffffffffffff)
	inf  = api.Num(0x7ff0000000000000)
	nan  = api.Num(0x7ff8000000000000)

	leastInt = int64(math.MinInt64)
	mostInt  = int64(math.MaxInt64)
)

type call struct {
	name string
	f    func(a api.Num) api.Num
}

func calls() []call {
	return []call{{"Trunc", whole.Trunc}, {"Floor", whole.Floor}, {"Ceil", whole.Ceil}, {"Near", whole.Near}}
}

func num(f float64) api.Num { return api.Num(math.Float64bits(f)) }

func finite(a api.Num) bool { return a&^low < inf }

func nans() []api.Num {
	var l []api.Num
	for _, n := range []api.Num{inf + 1, nan - 1, nan, nan + 1, 1<<63 - 1, inf + 1<<50} {
		l = append(l, n, n|low)
	}
	return l
}

// edges are the numbers that the chapter names, and those next to them, of both signs.
func edges() []api.Num {
	middle := []api.Num{1<<52 - 1, 1 << 52, most, inf}
	for _, f := range []float64{
		0x1p-53, 0.25, 0.5, 0.75, 1, 1.5, 2, 2.5, 3, 3.5, 4.5, 100.5, 1e15,
		1<<51 - 0.5, 1 << 51, 1<<51 + 0.5, 1<<51 + 1.5, 1<<52 - 1.5, 1<<52 - 0.5, 1 << 52, 1<<52 + 1, 1<<53 - 1, 1 << 53, 1<<53 + 2,
		0x1p62, 0x1p63, 0x1p64, 1e22, 1e300, 0x1p1023,
	} {
		middle = append(middle, num(f))
	}
	l := []api.Num{0, low, 1, 2, 1 | low, 2 | low}
	for _, a := range middle {
		for _, a := range []api.Num{a - 1, a, a + 1} {
			l = append(l, a, a|low)
		}
	}
	return append(l, nans()...)
}

// samples are the edges, and numbers by chance, always the same ones: of all exponents, of those from a quarter up to beyond 2^64, and halves.
func samples(n int) []api.Num {
	l := edges()
	r := rand.New(rand.NewSource(8))
	for i := 0; i < n; i++ {
		far := api.Num(r.Uint64())
		near := far&(low|1<<52-1) | api.Num(1021+r.Intn(68))<<52
		short := near &^ (1<<r.Intn(53) - 1)
		half := num(float64(r.Int63n(1<<(1+i%51))) + 0.5)
		l = append(l, far, near, short, half, half|low, half-1, half+1|low)
	}
	return l
}

// ints are the whole numbers that the chapter names, and such by chance, always the same ones, of all lengths.
func ints(n int) []int64 {
	l := []int64{leastInt, leastInt + 1, mostInt, mostInt - 1}
	for d := int64(-1100); d <= 1100; d++ {
		l = append(l, d, 1<<52+d, -1<<52+d, 1<<53+d, -1<<53+d, 1<<54+d, -1<<54+d, 1<<62+d, -1<<62+d, mostInt-1100+d, leastInt+1100+d)
	}
	r := rand.New(rand.NewSource(9))
	for i := 0; i < n; i++ {
		k := int64(r.Uint64()) >> (i % 64)
		l = append(l, k)
		// as near to two numbers, or one beside it
		if drop := bits.Len64(magnitude(k)) - 53; drop > 0 {
			m := k>>drop<<drop | 1<<(drop-1)
			l = append(l, m, m-1, m+1)
		}
	}
	return l
}

func magnitude(n int64) uint64 {
	if n < 0 {
		return -uint64(n)
	}
	return uint64(n)
}

// nearest is the number nearest to a whole number, reckoned on its bits alone.
func nearest(u uint64) api.Num {
	if u == 0 {
		return 0
	}
	length := bits.Len64(u)
	kept := u
	if drop := length - 53; drop > 0 {
		kept = u >> drop
		rest, middle := u-kept<<drop, uint64(1)<<(drop-1)
		if rest > middle || rest == middle && kept%2 == 1 {
			kept++
		}
	} else {
		kept <<= -drop
	}
	// The bit that is not stored, and one that came by rounding, count into the exponent.
	return api.Num(1023+length-2)<<52 + api.Num(kept)
}

func wantFromInt(n int64) api.Num {
	if n < 0 {
		return low | nearest(magnitude(n))
	}
	return nearest(magnitude(n))
}

// split is a finite number without its sign, as a whole number and a rest of so many parts of 2^1074, without any rounding.
func split(a api.Num) (entire, rest *big.Int) {
	exp, frac := a>>52&0x7ff, a&(1<<52-1)
	u := new(big.Int)
	if exp == 0 {
		u.SetUint64(uint64(frac))
	} else {
		u.SetUint64(uint64(frac | 1<<52))
		u.Lsh(u, uint(exp-1))
	}
	return new(big.Int).QuoRem(u, new(big.Int).Lsh(big.NewInt(1), 1074), new(big.Int))
}

func wantIs(a api.Num) bool {
	if !finite(a) {
		return false
	}
	_, rest := split(a)
	return rest.Sign() == 0
}

func wantToInt(a api.Num) (int64, bool) {
	if !wantIs(a) {
		return 0, false
	}
	n, _ := split(a)
	if a&low != 0 {
		n.Neg(n)
	}
	if !n.IsInt64() {
		return 0, false
	}
	return n.Int64(), true
}

// wantWhole is a made whole: further from 0 where away says so, of a number below 0 or not, of its rest held against a half, and of an odd or even whole number.
func wantWhole(a api.Num, away func(neg bool, half int, odd bool) bool) api.Num {
	switch {
	case a&^low > inf:
		return nan
	case a&^low == inf:
		return a
	}
	entire, rest := split(a)
	if rest.Sign() == 0 {
		return a
	}
	neg := a&low != 0
	u := entire.Uint64()
	if away(neg, rest.Cmp(new(big.Int).Lsh(big.NewInt(1), 1073)), u%2 == 1) {
		u++
	}
	return a&low | nearest(u)
}

func wantTrunc(a api.Num) api.Num {
	return wantWhole(a, func(neg bool, half int, odd bool) bool { return false })
}

func wantFloor(a api.Num) api.Num {
	return wantWhole(a, func(neg bool, half int, odd bool) bool { return neg })
}

func wantCeil(a api.Num) api.Num {
	return wantWhole(a, func(neg bool, half int, odd bool) bool { return !neg })
}

func wantNear(a api.Num) api.Num {
	return wantWhole(a, func(neg bool, half int, odd bool) bool { return half > 0 || half == 0 && odd })
}

func checkFromInt(t *testing.T, n int64, want api.Num) {
	t.Helper()
	if got := whole.FromInt(n); got != want {
		t.Errorf("FromInt(%d) = %x, not %x", n, got, want)
	}
}

func checkToInt(t *testing.T, a api.Num, n int64, is bool) {
	t.Helper()
	if got, ok := whole.ToInt(a); got != n || ok != is {
		t.Errorf("ToInt(%x) = %d, %t, not %d, %t", a, got, ok, n, is)
	}
}

func checkIs(t *testing.T, a api.Num, want bool) {
	t.Helper()
	if got := whole.Is(a); got != want {
		t.Errorf("Is(%x) = %t", a, got)
	}
}

func check(t *testing.T, a, trunc, floor, ceil, near api.Num) {
	t.Helper()
	want := []api.Num{trunc, floor, ceil, near}
	for i, c := range calls() {
		if got := c.f(a); got != want[i] {
			t.Errorf("%s(%x) = %x, not %x", c.name, a, got, want[i])
		}
	}
}

// P4.1
func TestFromInt(t *testing.T) {
	for _, x := range []struct {
		n    int64
		want api.Num
	}{
		{0, 0}, {1, one}, {-1, one | low}, {2, num(2)}, {-7, num(-7)}, {1000000, num(1e6)},
		{1<<53 - 1, 0x433fffffffffffff}, {1 << 53, 0x4340000000000000}, {-1<<53 + 1, 0xc33fffffffffffff}, {-1 << 53, 0xc340000000000000},
		// as near to two numbers: the even one
		{1<<53 + 1, 0x4340000000000000}, {1<<53 + 2, 0x4340000000000001}, {1<<53 + 3, 0x4340000000000002}, {1<<53 + 5, 0x4340000000000002}, {1<<53 + 7, 0x4340000000000004},
		{-1<<53 - 1, 0xc340000000000000}, {-1<<53 - 3, 0xc340000000000002}, {1<<54 - 1, 0x4350000000000000}, {1<<54 + 2, 0x4350000000000000}, {1<<54 + 6, 0x4350000000000002}, {-1<<54 - 6, 0xc350000000000002},
		{1<<54 + 1, 0x4350000000000000}, {1<<54 + 3, 0x4350000000000001},
		{1<<62 + 512, 0x43d0000000000000}, {1<<62 + 513, 0x43d0000000000001}, {1<<62 + 1536, 0x43d0000000000002}, {1<<62 + 1535, 0x43d0000000000001},
		{mostInt, 0x43e0000000000000}, {mostInt - 511, 0x43e0000000000000}, {mostInt - 512, 0x43dfffffffffffff}, {mostInt - 1023, 0x43dfffffffffffff}, {mostInt - 1535, 0x43dffffffffffffe},
		{leastInt, 0xc3e0000000000000}, {leastInt + 1, 0xc3e0000000000000}, {leastInt + 512, 0xc3e0000000000000}, {leastInt + 513, 0xc3dfffffffffffff}, {leastInt + 1024, 0xc3dfffffffffffff}, {leastInt + 1536, 0xc3dffffffffffffe},
	} {
		checkFromInt(t, x.n, x.want)
	}
	for _, n := range ints(20000) {
		checkFromInt(t, n, wantFromInt(n))
	}
}

// P4.1
func TestToInt(t *testing.T) {
	for _, x := range []struct {
		a  api.Num
		n  int64
		is bool
	}{
		{0, 0, true}, {low, 0, true}, {one, 1, true}, {one | low, -1, true}, {num(1e15), 1e15, true}, {num(-123456789), -123456789, true},
		{num(1 << 52), 1 << 52, true}, {num(1<<53 - 1), 1<<53 - 1, true}, {num(1 << 53), 1 << 53, true}, {num(1<<53 + 2), 1<<53 + 2, true}, {num(-1<<53 - 2), -1<<53 - 2, true},
		// just below, just at and just beyond what integers hold
		{num(0x1p63) - 1, 1<<63 - 1024, true}, {num(0x1p63), 0, false}, {num(0x1p63) + 1, 0, false}, {num(0x1p62), 1 << 62, true},
		{num(-0x1p63) - 1, -1<<63 + 1024, true}, {num(-0x1p63), leastInt, true}, {num(-0x1p63) + 1, 0, false}, {num(0x1p64), 0, false}, {num(-0x1p64), 0, false}, {num(1e300), 0, false}, {most | low, 0, false},
		// not whole
		{num(0.5), 0, false}, {num(-0.5), 0, false}, {num(1.5), 0, false}, {one + 1, 0, false}, {one - 1, 0, false}, {num(1<<52 - 0.5), 0, false}, {num(-1<<52 + 0.5), 0, false},
		{1, 0, false}, {1 | low, 0, false}, {1<<52 - 1, 0, false}, {1 << 52, 0, false},
		{inf, 0, false}, {inf | low, 0, false},
	} {
		checkToInt(t, x.a, x.n, x.is)
	}
	for _, a := range nans() {
		checkToInt(t, a, 0, false)
	}
	for _, a := range samples(5000) {
		n, is := wantToInt(a)
		checkToInt(t, a, n, is)
	}
}

// P4.1
func TestIs(t *testing.T) {
	for _, a := range []api.Num{0, low, one, one | low, num(2), num(-3), num(1e15), num(1<<52 - 1), num(1 << 52), num(1<<52 + 1), num(0x1p63) - 1, num(0x1p63), num(-0x1p63) + 1, num(1e300), most, most | low} {
		checkIs(t, a, true)
	}
	for _, a := range append(nans(), 1, 1|low, 1<<52-1, 1<<52, num(0.5), num(-0.5), num(1.5), one-1, one+1, num(1<<51+0.5), num(1<<52-0.5), num(-1<<52+0.5), inf, inf|low) {
		checkIs(t, a, false)
	}
	for _, a := range samples(5000) {
		checkIs(t, a, wantIs(a))
	}
}

// P4.2
func TestWhole(t *testing.T) {
	down := one | low
	for _, x := range []struct{ a, trunc, floor, ceil, near float64 }{
		{1.2, 1, 1, 2, 1}, {1.8, 1, 1, 2, 2}, {-1.2, -1, -2, -1, -1}, {-1.8, -1, -2, -1, -2}, {7, 7, 7, 7, 7}, {-7, -7, -7, -7, -7}, {1e15 + 0.25, 1e15, 1e15, 1e15 + 1, 1e15},
		// halves: the even one
		{1.5, 1, 1, 2, 2}, {2.5, 2, 2, 3, 2}, {3.5, 3, 3, 4, 4}, {4.5, 4, 4, 5, 4}, {-1.5, -1, -2, -1, -2}, {-2.5, -2, -3, -2, -2}, {-3.5, -3, -4, -3, -4},
		{1<<52 - 1.5, 1<<52 - 2, 1<<52 - 2, 1<<52 - 1, 1<<52 - 2}, {1<<52 - 0.5, 1<<52 - 1, 1<<52 - 1, 1 << 52, 1 << 52}, {-1<<52 + 0.5, -1<<52 + 1, -1 << 52, -1<<52 + 1, -1 << 52},
		{1<<51 + 0.5, 1 << 51, 1 << 51, 1<<51 + 1, 1 << 51}, {1<<51 + 1.5, 1<<51 + 1, 1<<51 + 1, 1<<51 + 2, 1<<51 + 2}, {1<<51 - 0.25, 1<<51 - 1, 1<<51 - 1, 1 << 51, 1 << 51},
	} {
		check(t, num(x.a), num(x.trunc), num(x.floor), num(x.ceil), num(x.near))
	}
	for _, x := range []struct{ a, trunc, floor, ceil, near api.Num }{
		// a nought has a's sign
		{0, 0, 0, 0, 0}, {low, low, low, low, low},
		{num(0.2), 0, 0, one, 0}, {num(-0.2), low, down, low, low}, {num(0.5), 0, 0, one, 0}, {num(-0.5), low, down, low, low}, {num(0.8), 0, 0, one, one}, {num(-0.8), low, down, low, down},
		{1, 0, 0, one, 0}, {1 | low, low, down, low, low}, {1<<52 - 1, 0, 0, one, 0}, {1<<52 - 1 | low, low, down, low, low}, {1 << 52, 0, 0, one, 0}, {1<<52 | low, low, down, low, low},
		// next to a half, and to a whole number
		{num(0.5) - 1, 0, 0, one, 0}, {num(0.5) + 1, 0, 0, one, one}, {num(-0.5) - 1, low, down, low, low}, {num(-0.5) + 1, low, down, low, down},
		{num(1.5) - 1, one, one, num(2), one}, {num(1.5) + 1, one, one, num(2), num(2)}, {num(2.5) - 1, num(2), num(2), num(3), num(2)}, {num(2.5) + 1, num(2), num(2), num(3), num(3)}, {num(-2.5) + 1, num(-2), num(-3), num(-2), num(-3)},
		{one - 1, 0, 0, one, one}, {one + 1, one, one, num(2), one}, {down - 1, low, down, low, down}, {down + 1, down, num(-2), down, down},
	} {
		check(t, x.a, x.trunc, x.floor, x.ceil, x.near)
	}
	for _, a := range samples(5000) {
		check(t, a, wantTrunc(a), wantFloor(a), wantCeil(a), wantNear(a))
	}
}

// P4.2
func TestWholeStays(t *testing.T) {
	for _, a := range []api.Num{one, num(1<<52 - 1), num(1 << 52), num(1<<52 + 1), num(1<<53 - 1), num(1 << 53), num(1<<53 + 2), num(0x1p63) - 1, num(0x1p63), num(0x1p63) + 1, num(1e300), most, inf} {
		check(t, a, a, a, a, a)
		check(t, a|low, a|low, a|low, a|low, a|low)
	}
	for _, a := range nans() {
		check(t, a, nan, nan, nan, nan)
	}
}

// P4.3
func TestThereAndBack(t *testing.T) {
	for _, n := range ints(20000) {
		if n >= -1<<53 && n <= 1<<53 {
			checkToInt(t, whole.FromInt(n), n, true)
		}
	}
	for _, a := range samples(5000) {
		n, is := whole.ToInt(a)
		if is && !flo.Equal(whole.FromInt(n), a) {
			t.Errorf("FromInt(ToInt(%x)) = %x", a, whole.FromInt(n))
		}
	}
	for _, a := range []api.Num{0, low, num(-0x1p63), num(0x1p63) - 1} {
		if n, is := whole.ToInt(a); !is || !flo.Equal(whole.FromInt(n), a) {
			t.Errorf("%x does not come back", a)
		}
	}
}

// P4.4
func TestAboutIt(t *testing.T) {
	for _, a := range samples(5000) {
		floor, ceil := whole.Floor(a), whole.Ceil(a)
		if flo.Less(a, floor) || flo.Less(ceil, a) {
			t.Errorf("%x is not from %x to %x", a, floor, ceil)
		}
		if trunc := whole.Trunc(a); trunc != floor && trunc != ceil {
			t.Errorf("Trunc(%x) = %x is neither %x nor %x", a, trunc, floor, ceil)
		}
		if near := whole.Near(a); near != floor && near != ceil {
			t.Errorf("Near(%x) = %x is neither %x nor %x", a, near, floor, ceil)
		}
		if !finite(a) {
			continue
		}
		// Both are below 2^53 where they differ, so nothing is rounded.
		apart := one
		if whole.Is(a) {
			apart = 0
		}
		if got := sum.Sub(ceil, floor); got != apart {
			t.Errorf("Ceil(%x) less Floor is %x", a, got)
		}
	}
}

// P4.5
func TestTwice(t *testing.T) {
	for _, a := range samples(5000) {
		for _, c := range calls() {
			got := c.f(a)
			if whole.Is(got) != finite(a) {
				t.Errorf("%s(%x) = %x: Is %t", c.name, a, got, whole.Is(got))
			}
			check(t, got, got, got, got, got)
		}
	}
}

// P4.6
func TestRises(t *testing.T) {
	l := samples(5000)
	slices.SortFunc(l, func(a, b api.Num) int {
		switch {
		case flo.Before(a, b):
			return -1
		case flo.Before(b, a):
			return 1
		}
		return 0
	})
	for _, c := range calls() {
		for i, a := range l[1:] {
			// Before is the stricter order: it has a place for noughts and NaNs, too.
			if flo.Before(c.f(a), c.f(l[i])) {
				t.Errorf("%s of %x is ahead of that of %x", c.name, a, l[i])
			}
		}
	}
}
