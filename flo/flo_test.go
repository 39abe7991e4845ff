package flo_test

import (
	"math"
	"math/big"
	"math/rand"
	"testing"

	"minstrel/api"
	"minstrel/flo"
)

const (
	signBit = api.Num(1) << 63
	inf     = api.Num(0x7ff0000000000000)
	nan     = api.Num(0x7ff8000000000000)
	most    = api.Num(0x7fefffffffffffff)
)

func num(f float64) api.Num { return api.Num(math.Float64bits(f)) }

// edges are the numbers without a sign that the chapter names, each kind's first and last one among them.
func edges() []api.Num {
	return []api.Num{
		0, 1, 2, 3, 1<<52 - 2, 1<<52 - 1, 1 << 52, 1<<52 + 1, 2<<52 - 1, 2 << 52,
		num(0.1), num(0.5), num(1) - 1, num(1), num(1) + 1, num(1.5), num(2), num(3), num(math.Pi),
		num(1<<53 - 1), num(1 << 53), num(1<<53 + 2), num(1 << 62), num(1 << 63), num(1e300),
		most - 1, most, inf, inf + 1, nan - 1, nan, nan + 1, 1<<63 - 1,
	}
}

// samples are the edges with both signs, and numbers of all exponents, always the same ones.
func samples() []api.Num {
	var l []api.Num
	for _, a := range edges() {
		l = append(l, a, a|signBit)
	}
	r := rand.New(rand.NewSource(1))
	for i := 0; i < 300; i++ {
		l = append(l, api.Num(r.Uint64()), api.Num(r.Uint64())&(signBit|1<<52-1))
	}
	return l
}

func isNaN(a api.Num) bool  { return a&^signBit > inf }
func finite(a api.Num) bool { return a&^signBit < inf }

// exact is frac (and a half) times 2^exp, without rounding.
func exact(neg bool, exp int, frac uint64, half bool) *big.Float {
	v := new(big.Float).SetPrec(100).SetUint64(frac)
	if half {
		v.Add(v, big.NewFloat(0.5))
	}
	v.SetMantExp(v, exp)
	if neg {
		v.Neg(v)
	}
	return v
}

// nearest is what Make should answer, by the library's numbers of any size.
func nearest(neg bool, exp int, frac uint64, half bool) api.Num {
	f, _ := exact(neg, exp, frac, half).Float64()
	return num(f)
}

// P1.1
func TestKind(t *testing.T) {
	for _, x := range []struct {
		a    api.Num
		kind int
	}{
		{0, api.Zero},
		{1, api.Tiny}, {1 << 51, api.Tiny}, {1<<52 - 1, api.Tiny},
		{1 << 52, api.Plain}, {num(0.1), api.Plain}, {num(1), api.Plain}, {num(1e300), api.Plain}, {most, api.Plain},
		{inf, api.Inf},
		{inf + 1, api.NaN}, {nan - 1, api.NaN}, {nan, api.NaN}, {nan + 1, api.NaN}, {1<<63 - 1, api.NaN},
	} {
		for _, a := range []api.Num{x.a, x.a | signBit} {
			if k := flo.Kind(a); k != x.kind {
				t.Errorf("Kind(%x) = %d, not %d", a, k, x.kind)
			}
		}
	}
}

func TestKindByBits(t *testing.T) {
	for _, a := range samples() {
		exp, frac, want := a>>52&0x7ff, a&(1<<52-1), api.Plain
		switch {
		case exp == 0 && frac == 0:
			want = api.Zero
		case exp == 0:
			want = api.Tiny
		case exp == 0x7ff && frac == 0:
			want = api.Inf
		case exp == 0x7ff:
			want = api.NaN
		}
		if k := flo.Kind(a); k != want {
			t.Errorf("Kind(%x) = %d, not %d", a, k, want)
		}
	}
}

// P1.1
func TestCanon(t *testing.T) {
	for _, a := range samples() {
		want := a
		if isNaN(a) {
			want = nan
		}
		if c := flo.Canon(a); c != want {
			t.Errorf("Canon(%x) = %x, not %x", a, c, want)
		}
	}
}

// P1.2
func TestParts(t *testing.T) {
	for _, x := range []struct {
		a    api.Num
		exp  int
		frac uint64
	}{
		{num(1), -52, 1 << 52},
		{num(3), -51, 3 << 51},
		{num(0.5), -53, 1 << 52},
		{0, 0, 0},
		{1, -1074, 1}, {1<<52 - 1, -1074, 1<<52 - 1},
		{1 << 52, -1074, 1 << 52}, {2 << 52, -1073, 1 << 52},
		{most, 971, 1<<53 - 1},
		{inf, 0, 0}, {nan, 0, 0}, {inf + 1, 0, 0}, {1<<63 - 1, 0, 0},
	} {
		for _, a := range []api.Num{x.a, x.a | signBit} {
			neg, exp, frac := flo.Parts(a)
			if neg != (a != x.a) || exp != x.exp || frac != x.frac {
				t.Errorf("Parts(%x) = %v, %d, %x, not %d, %x", a, neg, exp, frac, x.exp, x.frac)
			}
		}
	}
}

func TestPartsSayTheNumber(t *testing.T) {
	for _, a := range samples() {
		if !finite(a) {
			continue
		}
		neg, exp, frac := flo.Parts(a)
		f := math.Float64frombits(uint64(a))
		if neg != math.Signbit(f) || exact(neg, exp, frac, false).Cmp(big.NewFloat(f)) != 0 {
			t.Errorf("Parts(%x) = %v, %d, %x", a, neg, exp, frac)
		}
	}
}

// P1.3
func TestMake(t *testing.T) {
	for _, x := range []struct {
		exp  int
		frac uint64
		half bool
		want api.Num
	}{
		// ordinary ones
		{0, 1, false, num(1)}, {-1, 3, false, num(1.5)}, {10, 7, false, num(7168)}, {0, 2, true, num(2.5)}, {1, 1, true, num(3)},
		// noughts, and a fraction of 0 with half
		{0, 0, false, 0}, {2000, 0, false, 0}, {-2000, 0, false, 0},
		{0, 0, true, num(0.5)}, {1, 0, true, num(1)}, {-1073, 0, true, 1}, {-1074, 0, true, 0}, {1024, 0, true, num(0x1p1023)}, {1025, 0, true, inf},
		// two that are as near, and a little more
		{0, 1<<53 + 1, false, num(1 << 53)}, {0, 1<<53 + 3, false, num(1<<53 + 4)},
		{0, 1<<53 + 1, true, num(1<<53 + 2)}, {0, 1 << 53, true, num(1 << 53)}, {0, 1<<53 + 2, true, num(1<<53 + 2)},
		{0, 1 << 52, true, num(1 << 52)}, {0, 1<<52 + 1, true, num(1<<52 + 2)}, {0, 1<<53 - 1, true, num(1 << 53)}, {0, 1<<52 - 1, true, num(1<<52 - 0.5)},
		{0, 1<<63 + 1<<10, false, num(1 << 63)}, {0, 1<<63 + 1<<10, true, num(1<<63 + 1<<11)}, {0, 1<<63 + 3<<10, false, num(1<<63 + 1<<12)},
		{0, 1<<63 - 1, true, num(1 << 63)}, {0, 1<<64 - 1, false, num(1 << 64)}, {0, 1<<64 - 1, true, num(1 << 64)},
		// Tiny ones
		{-1074, 1, false, 1}, {-1075, 1, false, 0}, {-1075, 1, true, 1}, {-1075, 3, false, 2}, {-1075, 5, false, 2}, {-1076, 3, false, 1}, {-1076, 1, true, 0},
		{-1074, 1<<52 - 1, false, 1<<52 - 1}, {-1074, 1<<52 - 1, true, 1 << 52}, {-1074, 1<<52 - 2, true, 1<<52 - 2}, {-1074, 1<<53 - 1, true, 2 << 52},
		{-1075, 1<<53 - 1, false, 1 << 52},
		{-1138, 1 << 63, false, 0}, {-1138, 1 << 63, true, 1}, {-1138, 1<<63 + 1, false, 1}, {-1137, 1 << 63, false, 1},
		{-1139, 1<<64 - 1, false, 0}, {-1139, 1<<64 - 1, true, 0}, {-1138, 1<<64 - 1, true, 1},
		// the greatest finite one, and Inf
		{971, 1<<53 - 1, false, most}, {971, 1<<53 - 1, true, inf}, {970, 1<<54 - 1, false, inf}, {970, 1<<54 - 2, true, most}, {969, 1<<55 - 3, true, most}, {969, 1<<55 - 2, false, inf},
		{960, 1<<64 - 1<<10 - 1, true, most}, {960, 1<<64 - 1<<10, false, inf}, {960, 1<<64 - 1, true, inf},
		{1023, 1, false, num(0x1p1023)}, {1023, 1, true, num(0x1.8p1023)}, {1023, 2, false, inf}, {1024, 1, false, inf},
		// exponents far beyond both ends
		{1 << 40, 1, false, inf}, {math.MaxInt, 1, false, inf}, {math.MaxInt, 0, true, inf}, {math.MaxInt, 1<<64 - 1, true, inf}, {math.MaxInt, 0, false, 0},
		{-1 << 40, 1, true, 0}, {math.MinInt, 1, false, 0}, {math.MinInt, 0, true, 0}, {math.MinInt, 1<<64 - 1, true, 0}, {math.MinInt, 0, false, 0},
	} {
		for _, neg := range []bool{false, true} {
			want := x.want
			if neg {
				want |= signBit
			}
			if a := flo.Make(neg, x.exp, x.frac, x.half); a != want {
				t.Errorf("Make(%v, %d, %x, %v) = %x, not %x", neg, x.exp, x.frac, x.half, a, want)
			}
		}
	}
}

// fracs are fractions of all lengths, the ones about each power of two, and some that are as near to two numbers.
func fracs(r *rand.Rand) []uint64 {
	l := []uint64{0, 1<<64 - 1}
	for n := 0; n < 64; n++ {
		p := uint64(1) << n
		any := r.Uint64() >> n
		l = append(l, p-1, p, p+1, any)
		if n > 0 {
			l = append(l, any>>n<<n|p>>1, any>>n<<n|p>>1+1, any>>n<<n|p>>1-1)
		}
	}
	return l
}

// exps are exponents from below the least to above the greatest, close together at both ends.
func exps() []int {
	var l []int
	for e := -1220; e <= 1120; e++ {
		if e < -1060 || e > 900 || e%97 == 0 {
			l = append(l, e)
		}
	}
	return append(l, -50000, -1300, 1300, 50000)
}

// P1.3
func TestMakeNearest(t *testing.T) {
	l := fracs(rand.New(rand.NewSource(2)))
	for i, exp := range exps() {
		for j, frac := range l {
			half, neg := (i+j)%2 == 0, i%3 == 0
			if a, want := flo.Make(neg, exp, frac, half), nearest(neg, exp, frac, half); a != want {
				t.Fatalf("Make(%v, %d, %x, %v) = %x, not %x", neg, exp, frac, half, a, want)
			}
		}
	}
}

// P1.4
func TestNegAbs(t *testing.T) {
	for _, a := range samples() {
		neg, abs := a^signBit, a&^signBit
		if isNaN(a) {
			neg, abs = nan, nan
		}
		if n := flo.Neg(a); n != neg {
			t.Errorf("Neg(%x) = %x, not %x", a, n, neg)
		}
		if b := flo.Abs(a); b != abs {
			t.Errorf("Abs(%x) = %x, not %x", a, b, abs)
		}
	}
}

// inOrder are numbers of which each is ahead of all behind it.
func inOrder() []api.Num {
	l := []api.Num{inf, most, most - 1, num(1e300), num(2), num(1) + 1, num(1), num(0.1), 1 << 52, 1<<52 - 1, 2, 1, 0}
	up := make([]api.Num, 0, 2*len(l)+1)
	for _, a := range l {
		up = append(up, a|signBit)
	}
	for i := range l {
		up = append(up, l[len(l)-1-i])
	}
	return append(up, nan)
}

// P1.4
func TestComparisons(t *testing.T) {
	l := inOrder()
	for i, a := range l {
		for j, b := range l {
			noughts := a&^signBit == 0 && b&^signBit == 0
			numbers := a != nan && b != nan
			if got, want := flo.Less(a, b), numbers && !noughts && i < j; got != want {
				t.Errorf("Less(%x, %x) = %v", a, b, got)
			}
			if got, want := flo.Equal(a, b), numbers && (noughts || i == j); got != want {
				t.Errorf("Equal(%x, %x) = %v", a, b, got)
			}
			if got, want := flo.Before(a, b), i < j; got != want {
				t.Errorf("Before(%x, %x) = %v", a, b, got)
			}
		}
	}
}

// P1.4
func TestNaNsCompare(t *testing.T) {
	nans := []api.Num{nan, nan | signBit, inf + 1, inf + 1 | signBit, 1<<63 - 1, 1<<64 - 1, nan + 1}
	for _, a := range nans {
		for _, b := range samples() {
			if flo.Less(a, b) || flo.Less(b, a) || flo.Equal(a, b) || flo.Equal(b, a) {
				t.Errorf("%x and %x compare as numbers", a, b)
			}
			if flo.Before(a, b) || flo.Before(b, a) == isNaN(b) {
				t.Errorf("%x and %x: order", a, b)
			}
		}
	}
}

// P1.5
func TestThereAndBack(t *testing.T) {
	for _, a := range samples() {
		if !finite(a) {
			continue
		}
		neg, exp, frac := flo.Parts(a)
		if b := flo.Make(neg, exp, frac, false); b != a {
			t.Errorf("Make of Parts of %x = %x", a, b)
		}
	}
}

// P1.6
func TestAnOrder(t *testing.T) {
	l := samples()
	for _, a := range l {
		for _, b := range l {
			ahead, behind := flo.Before(a, b), flo.Before(b, a)
			if same := flo.Canon(a) == flo.Canon(b); same && (ahead || behind) || !same && ahead == behind {
				t.Fatalf("Before of %x and %x: %v, %v", a, b, ahead, behind)
			}
			if flo.Less(a, b) && !ahead {
				t.Fatalf("%x is less than %x and not ahead of it", a, b)
			}
		}
	}
}

// P1.6
func TestOrderGoesOn(t *testing.T) {
	l := samples()[:200]
	for _, a := range l {
		for _, b := range l {
			if !flo.Before(a, b) {
				continue
			}
			for _, c := range l {
				if flo.Before(b, c) && !flo.Before(a, c) {
					t.Fatalf("%x, %x, %x", a, b, c)
				}
			}
		}
	}
}

// P1.7
func TestBetween(t *testing.T) {
	l := fracs(rand.New(rand.NewSource(3)))
	for _, exp := range append(exps(), math.MinInt, math.MaxInt) {
		for _, frac := range l {
			for _, half := range []bool{false, true} {
				a := flo.Make(false, exp, frac, half)
				if flo.Neg(a) != flo.Make(true, exp, frac, half) {
					t.Fatalf("Make(%d, %x, %v): the other sign", exp, frac, half)
				}
				if frac == math.MaxUint64 {
					continue
				}
				if flo.Less(a, flo.Make(false, exp, frac, false)) || flo.Less(flo.Make(false, exp, frac+1, false), a) {
					t.Fatalf("Make(%d, %x, %v) is not between", exp, frac, half)
				}
			}
		}
	}
}

// P1.8
func TestRises(t *testing.T) {
	r := rand.New(rand.NewSource(4))
	l := fracs(r)
	for _, exp := range append(exps(), math.MinInt, math.MaxInt) {
		for i := 0; i < 300; i++ {
			x, y := l[r.Intn(len(l))], l[r.Intn(len(l))]
			if i%3 == 0 {
				y = x + uint64(r.Intn(5))
			}
			if x > y {
				x, y = y, x
			}
			if flo.Less(flo.Make(false, exp, y, false), flo.Make(false, exp, x, false)) {
				t.Fatalf("exponent %d: %x makes less than %x", exp, y, x)
			}
		}
	}
}

// P1.9
func TestSigns(t *testing.T) {
	for _, a := range samples() {
		if b := flo.Neg(flo.Neg(a)); b != flo.Canon(a) {
			t.Errorf("Neg twice of %x = %x", a, b)
		}
		if neg, _, _ := flo.Parts(flo.Abs(a)); neg || flo.Less(flo.Abs(a), 0) {
			t.Errorf("Abs(%x) is below 0", a)
		}
	}
}

// No call panics, whatever it is given; Make never makes a NaN.
func TestAnyArguments(t *testing.T) {
	r := rand.New(rand.NewSource(5))
	for i := 0; i < 100000; i++ {
		a, b := api.Num(r.Uint64()), api.Num(r.Uint64()|0x7ff<<52)
		exp, frac := int(r.Uint64())>>r.Intn(64), r.Uint64()>>r.Intn(64)
		flo.Parts(a)
		flo.Parts(b)
		flo.Less(a, b)
		flo.Equal(a, b)
		flo.Before(a, b)
		flo.Before(b, a)
		for _, x := range []api.Num{flo.Canon(b), flo.Neg(b), flo.Abs(b)} {
			if isNaN(x) && x != nan {
				t.Fatalf("another NaN than the one: %x of %x", x, b)
			}
		}
		if m := flo.Make(i%2 == 0, exp, frac, i%3 == 0); flo.Kind(m) == api.NaN {
			t.Fatalf("Make(%d, %x) is a NaN", exp, frac)
		}
	}
}
