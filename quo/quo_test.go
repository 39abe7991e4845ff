package quo_test

import (
	"math"
	"math/big"
	"math/rand"
	"slices"
	"testing"

	"minstrel/api"
	"minstrel/flo"
	"minstrel/quo"
	"minstrel/sum"
)

const (
	low  = api.Num(1) << 63 // the nought below 0, and the sign's bit
	one  = api.Num(0x3ff0000000000000)
	most = api.Num(0x7fefffffffffffff)
	inf  = api.Num(0x7ff0000000000000)
	nan  = api.Num(0x7ff8000000000000)
)

type reckon func(a, b api.Num) api.Num

type row struct{ a, b, want api.Num }

func num(f float64) api.Num { return api.Num(math.Float64bits(f)) }

func isNaN(a api.Num) bool  { return a&^low > inf }
func isInf(a api.Num) bool  { return a&^low == inf }
func finite(a api.Num) bool { return a&^low < inf }
func zero(a api.Num) bool   { return a&^low == 0 }

func nans() []api.Num {
	var l []api.Num
	for _, n := range []api.Num{inf + 1, nan - 1, nan, nan + 1, 1<<63 - 1, inf + 1<<50} {
		l = append(l, n, n|low)
	}
	return l
}

// edges are the numbers without a sign that the chapter names.
func edges() []api.Num {
	return []api.Num{
		0, 1, 2, 3, 5, 7, 1<<52 - 1, 1 << 52, 1<<52 + 1, 1<<52 + 3, 2<<52 - 1, 2 << 52,
		num(0x1p-538), num(0x1p-537), num(0x1.8p-537), num(0x1p-511), num(0x1p-51), num(0x1p-50),
		num(0.1), num(0.3), num(0x1p-53), num(0.5), one - 1, one, one + 1, num(1.5), num(2), num(3), num(4), num(7), num(10),
		num(1<<26 - 1), num(1<<53 - 1), num(1 << 53), num(1<<53 + 2), num(1e200), num(1e300),
		num(0x1p511), num(0x1p512), num(0x1p1022), num(0x1p1023), most - 1, most,
		inf, inf + 1, nan - 1, nan, nan + 1, 1<<63 - 1,
	}
}

// samples are the edges with both signs, and numbers by chance, always the same ones: of all exponents, Tiny, and near 1.
func samples(n int) []api.Num {
	var l []api.Num
	for _, a := range edges() {
		l = append(l, a, a|low)
	}
	r := rand.New(rand.NewSource(5))
	for i := 0; i < n; i++ {
		l = append(l, api.Num(r.Uint64()), api.Num(r.Uint64())&(low|1<<52-1), num(r.NormFloat64()))
	}
	return l
}

// pairs hands on any two of the samples, pairs that lie near one another, and small whole numbers, whose rests are often a nought.
func pairs(try func(a, b api.Num)) {
	l := samples(40)
	for _, a := range l {
		for _, b := range l {
			try(a, b)
		}
	}
	r := rand.New(rand.NewSource(6))
	for i := 0; i < 5000; i++ {
		a := api.Num(r.Uint64())
		try(a, a^api.Num(r.Uint64())&(low|1<<58-1))
		try(num(float64(r.Intn(200)-100)), num(float64(r.Intn(40)-20)))
		try(api.Num(r.Intn(200)), api.Num(r.Intn(20)))
	}
}

// units is how many of the least Tiny number a finite number is, without its sign: always a whole number.
func units(a api.Num) *big.Int {
	exp, frac := a>>52&0x7ff, a&(1<<52-1)
	if exp == 0 {
		return new(big.Int).SetUint64(uint64(frac))
	}
	u := new(big.Int).SetUint64(uint64(frac | 1<<52))
	return u.Lsh(u, uint(exp-1))
}

// nearest is the number nearest to the quotient of two whole numbers, in units: rounded once, here.
func nearest(above, below *big.Int) api.Num {
	drop := 0
	kept, rest, under := new(big.Int), new(big.Int), new(big.Int)
	for {
		kept.QuoRem(above, under.Lsh(below, uint(drop)), rest)
		if kept.BitLen() <= 53 {
			break
		}
		drop += kept.BitLen() - 53
	}
	if c := rest.Lsh(rest, 1).Cmp(under); c > 0 || c == 0 && kept.Bit(0) == 1 {
		kept.Add(kept, big.NewInt(1))
	}
	if drop > 2046 {
		return inf
	}
	// The bit that is not stored, and one that came by rounding, count into the exponent.
	return min(api.Num(drop)<<52+api.Num(kept.Uint64()), inf)
}

func wantDiv(a, b api.Num) api.Num {
	sign := (a ^ b) & low
	switch {
	case isNaN(a) || isNaN(b) || zero(a) && zero(b) || isInf(a) && isInf(b):
		return nan
	case isInf(a) || zero(b):
		return inf | sign
	case isInf(b) || zero(a):
		return sign
	}
	above := units(a)
	return sign | nearest(above.Lsh(above, 1074), units(b))
}

func wantRem(a, b api.Num) api.Num {
	switch {
	case isNaN(a) || isNaN(b) || isInf(a) || zero(b):
		return nan
	case isInf(b):
		return a
	}
	rest := new(big.Int).Rem(units(a), units(b))
	got := nearest(rest, big.NewInt(1))
	if units(got).Cmp(rest) != 0 {
		panic("a rest that is no number")
	}
	return a&low | got
}

func wantMod(a, b api.Num) api.Num {
	rest := wantRem(a, b)
	switch {
	case isNaN(rest):
		return nan
	case zero(rest):
		return b & low
	case rest&low == b&low:
		return rest
	case isInf(b):
		return b
	}
	return b&low | nearest(new(big.Int).Sub(units(b), units(rest)), big.NewInt(1))
}

// wantSqrt takes the root of so many units more that half a unit of the answer is seen: no root is as near to two numbers.
func wantSqrt(a api.Num) api.Num {
	switch {
	case isNaN(a) || a&low != 0 && !zero(a):
		return nan
	case zero(a) || isInf(a):
		return a
	}
	const more = 200
	u := units(a)
	u.Lsh(u, 1074+2*more)
	root := new(big.Int).Sqrt(u)
	if new(big.Int).Mul(root, root).Cmp(u) != 0 {
		root.Lsh(root, 1).Add(root, big.NewInt(1))
		return nearest(root, new(big.Int).Lsh(big.NewInt(1), more+1))
	}
	return nearest(root, new(big.Int).Lsh(big.NewInt(1), more))
}

func check(t *testing.T, name string, f reckon, rows []row) {
	t.Helper()
	for _, x := range rows {
		if got := f(x.a, x.b); got != x.want {
			t.Errorf("%s(%x, %x) = %x, not %x", name, x.a, x.b, got, x.want)
		}
	}
}

func checkSqrt(t *testing.T, a, want api.Num) {
	t.Helper()
	if got := quo.Sqrt(a); got != want {
		t.Errorf("Sqrt(%x) = %x, not %x", a, got, want)
	}
}

// P3.1
func TestDiv(t *testing.T) {
	check(t, "Div", quo.Div, []row{
		{num(6), num(3), num(2)}, {num(1), num(3), 0x3fd5555555555555}, {num(-1), num(3), 0xbfd5555555555555}, {num(7), num(-2), num(-3.5)}, {num(-7), num(-2), num(3.5)},
		{num(2), num(3), 0x3fe5555555555555}, {num(1), num(10), num(0.1)}, {num(5), num(3), 0x3ffaaaaaaaaaaaab}, {one, one + 1, one - 2}, {one, one - 1, one + 1}, {one + 1, one - 1, one + 2},
		// as near to two numbers, which only Tiny ones can be
		{1, num(2), 0}, {3, num(2), 2}, {5, num(2), 2}, {7, num(2), 4}, {1<<52 + 1, num(2), 1 << 51}, {1<<52 + 3, num(2), 1<<51 + 2}, {2<<52 - 1, num(2), 1 << 52}, {2<<52 + 4, num(16), 1 << 49}, {2<<52 + 12, num(16), 1<<49 + 2},
		// Tiny ones and noughts
		{1, num(2) - 1, 1}, {1, num(2) + 1, 0}, {3, num(4), 1}, {1, num(3), 0}, {1 | low, num(3), low}, {1, num(-3), low}, {1 | low, num(-3), 0}, {1, most, 0}, {1, most | low, low},
		{1 << 52, num(2), 1 << 51}, {1 << 52, one + 1, 1<<52 - 1}, {one, most, 1 << 50}, {num(0x1p-1022), num(0x1p52), 1}, {num(0x1p-1022), num(0x1p53), 0}, {num(0x1p-1022) + 1, num(0x1p53), 1},
		{1, 1, one}, {3, 1, num(3)}, {1, 2, num(0.5)}, {1<<52 - 1, 1, num(1<<52 - 1)},
		// the greatest one, and beyond
		{most, one, most}, {most, one - 1, inf}, {most - 1, one - 1, most}, {most, num(0.5), inf}, {most | low, num(0.5), inf | low}, {most, num(-0.5), inf | low},
		{num(0x1p-51), 1, num(0x1p1023)}, {num(0x1p-50), 1, inf}, {one, 1, inf}, {one, 1 | low, inf | low}, {most, 1, inf}, {num(1e200), num(-1e-200), inf | low},
	})
	pairs(func(a, b api.Num) { check(t, "Div", quo.Div, []row{{a, b, wantDiv(a, b)}}) })
}

// P3.1
func TestDivEdges(t *testing.T) {
	down := inf | low
	check(t, "Div", quo.Div, []row{
		{0, 0, nan}, {0, low, nan}, {low, 0, nan}, {low, low, nan},
		{inf, inf, nan}, {inf, down, nan}, {down, inf, nan}, {down, down, nan},
		{one, 0, inf}, {one, low, down}, {num(-1), 0, down}, {num(-1), low, inf}, {1, 0, inf}, {most, low, down},
		{inf, 0, inf}, {inf, low, down}, {down, 0, down}, {down, low, inf},
		{inf, num(2), inf}, {inf, num(-2), down}, {down, 1, down}, {down, most | low, inf},
		{one, inf, 0}, {one, down, low}, {num(-1), inf, low}, {num(-1), down, 0}, {most, inf, 0}, {1 | low, inf, low},
		{0, inf, 0}, {0, down, low}, {low, inf, low}, {low, down, 0},
		{0, num(3), 0}, {0, num(-3), low}, {low, num(3), low}, {low, num(-3), 0}, {0, 1, 0}, {low, most, low},
	})
}

// P3.1, P3.2, P3.3
func TestNaNs(t *testing.T) {
	for _, n := range nans() {
		checkSqrt(t, n, nan)
		for _, a := range append(samples(10), nans()...) {
			rows := []row{{n, a, nan}, {a, n, nan}}
			check(t, "Div", quo.Div, rows)
			check(t, "Rem", quo.Rem, rows)
			check(t, "Mod", quo.Mod, rows)
		}
	}
}

// P3.2
func TestRem(t *testing.T) {
	down := inf | low
	check(t, "Rem", quo.Rem, []row{
		{num(5), num(3), num(2)}, {num(-5), num(3), num(-2)}, {num(5), num(-3), num(2)}, {num(-5), num(-3), num(-2)}, {num(-1), num(3), num(-1)},
		{num(5.5), num(2), num(1.5)}, {num(0.3), num(0.1), 0x3fb9999999999998}, {num(1e300), num(7), num(1)}, {num(1 << 53), num(3), num(2)}, {most, num(10), num(8)},
		// a nought has a's sign
		{num(6), num(3), 0}, {num(-6), num(3), low}, {num(6), num(-3), 0}, {num(-6), num(-3), low}, {0, num(3), 0}, {low, num(3), low}, {low, num(-3), low}, {0, 1, 0}, {low, most, low},
		// as far apart as they can be
		{num(0x1p1023), 3, 2}, {num(0x1p1022), 3, 1}, {num(-0x1p1023), 3, 2 | low}, {num(0x1p1022), 3 | low, 1}, {most, 1, 0}, {most | low, 1, low}, {most, 2, 0}, {num(0x1p1023), 1<<52 - 1, 1 << 17},
		{1, most, 1}, {1 | low, most, 1 | low}, {7, 4, 3}, {7 | low, 4, 3 | low}, {1 << 52, 1<<52 - 1, 1}, {1<<52 + 1, 1 << 52, 1}, {most, most - 1, num(0x1p971)}, {most - 1, most, most - 1},
		// the infinities and noughts
		{inf, num(3), nan}, {down, num(3), nan}, {inf, inf, nan}, {inf, down, nan}, {inf, 0, nan}, {num(5), 0, nan}, {num(5), low, nan}, {0, 0, nan}, {low, 0, nan}, {0, low, nan}, {1, low, nan},
		{num(5), inf, num(5)}, {num(5), down, num(5)}, {num(-5), inf, num(-5)}, {most, inf, most}, {1 | low, down, 1 | low}, {0, inf, 0}, {low, inf, low}, {low, down, low},
	})
	pairs(func(a, b api.Num) { check(t, "Rem", quo.Rem, []row{{a, b, wantRem(a, b)}}) })
}

// P3.2
func TestMod(t *testing.T) {
	down := inf | low
	check(t, "Mod", quo.Mod, []row{
		{num(5), num(3), num(2)}, {num(-1), num(3), num(2)}, {num(5), num(-3), num(-1)}, {num(-5), num(-3), num(-2)}, {num(-5.5), num(2), num(0.5)},
		// a nought has b's sign
		{num(6), num(3), 0}, {num(-6), num(3), 0}, {num(6), num(-3), low}, {num(-6), num(-3), low}, {0, num(3), 0}, {low, num(3), 0}, {0, num(-3), low}, {low, num(-3), low}, {low, 1, 0}, {0, 1 | low, low},
		// what is added is rounded, up to b itself
		{1 | low, num(3), num(3)}, {1, num(-3), num(-3)}, {num(-0x1p-54), one, one}, {num(-0x1p-53), one, one - 1}, {1 | low, most, most},
		{1 | low, 3, 2}, {7 | low, 4, 1}, {num(-0x1p1023), 3, 1}, {num(0x1p1022), 3 | low, 2 | low},
		// the infinities and noughts
		{num(-1), inf, inf}, {num(1), down, down}, {1 | low, inf, inf}, {most, down, down}, {num(1), inf, num(1)}, {num(-1), down, num(-1)}, {0, inf, 0}, {low, inf, 0}, {0, down, low}, {low, down, low},
		{inf, num(3), nan}, {down, num(3), nan}, {inf, inf, nan}, {down, inf, nan}, {num(5), 0, nan}, {num(-5), 0, nan}, {num(5), low, nan}, {0, 0, nan}, {low, low, nan},
	})
	pairs(func(a, b api.Num) {
		check(t, "Mod", quo.Mod, []row{{a, b, wantMod(a, b)}})
		rest := quo.Rem(a, b)
		if finite(rest) && !zero(rest) && (rest^b)&low != 0 {
			check(t, "Mod", quo.Mod, []row{{a, b, sum.Add(rest, b)}})
		}
	})
}

// P3.3
func TestSqrt(t *testing.T) {
	for _, x := range []struct{ a, want api.Num }{
		{num(4), num(2)}, {num(9), num(3)}, {num(2), 0x3ff6a09e667f3bcd}, {num(3), 0x3ffbb67ae8584caa}, {num(0.25), num(0.5)}, {num(1e300), num(1e150)},
		{0, 0}, {low, low}, {inf, inf}, {inf | low, nan}, {num(-1), nan}, {num(-4), nan}, {1 | low, nan}, {1<<52 | low, nan}, {most | low, nan},
		{1, num(0x1p-537)}, {4, num(0x1p-536)}, {9, num(0x1.8p-536)}, {2, 0x1e66a09e667f3bcd}, {1 << 52, num(0x1p-511)}, {1<<52 - 1, num(0x1p-511) - 1},
		// the nearest root lies just beside the middle of two
		{one + 1, one}, {one + 2, one + 1}, {one - 1, one - 1}, {one - 2, one - 1}, {most, num(0x1p512) - 1}, {num(1<<53 + 2), num(0x1.6a09e667f3bcdp26)},
	} {
		checkSqrt(t, x.a, x.want)
	}
	for _, a := range samples(5000) {
		checkSqrt(t, a, wantSqrt(a))
		checkSqrt(t, a&^low, wantSqrt(a&^low))
	}
}

// P3.4
func TestBack(t *testing.T) {
	whole := func(i int) api.Num { return num(float64(i)) }
	back := func(a, b int) {
		p := sum.Mul(whole(a), whole(b))
		if b != 0 {
			check(t, "Div", quo.Div, []row{{p, whole(b), whole(a)}})
		}
		if a != 0 {
			check(t, "Div", quo.Div, []row{{p, whole(a), whole(b)}})
		}
		checkSqrt(t, sum.Mul(whole(a), whole(a)), flo.Abs(whole(a)))
	}
	const top = 1<<26 - 1
	for _, a := range []int{0, 1, 2, 3, 7, 10, 1 << 25, top - 1, top} {
		for _, b := range []int{0, 1, 2, 3, 7, 10, 1 << 25, top - 1, top} {
			back(a, b)
			back(-a, b)
			back(-a, -b)
		}
	}
	r := rand.New(rand.NewSource(7))
	for i := 0; i < 20000; i++ {
		back((r.Intn(2*top+1)-top)>>(i%20), (r.Intn(2*top+1)-top)>>(i/20%20))
	}
}

// P3.5
func TestRests(t *testing.T) {
	pairs(func(a, b api.Num) {
		if isNaN(b) || zero(b) || !finite(a) {
			return
		}
		if rest := quo.Rem(a, b); !flo.Less(flo.Abs(rest), flo.Abs(b)) {
			t.Errorf("Rem(%x, %x) = %x is not less", a, b, rest)
		}
		if rest := quo.Mod(a, b); isNaN(rest) || (rest^b)&low != 0 {
			t.Errorf("Mod(%x, %x) = %x has not b's sign", a, b, rest)
		}
	})
}

// P3.6
func TestRootsGoUp(t *testing.T) {
	var l []api.Num
	for _, a := range samples(2000) {
		if isNaN(a) {
			continue
		}
		// the next one, too: between neighbours a root must not fall
		for _, a := range []api.Num{a &^ low, min(a&^low+1, inf)} {
			l = append(l, a)
		}
	}
	slices.Sort(l)
	for i, a := range l {
		root := quo.Sqrt(a)
		if isNaN(root) {
			t.Errorf("%x has no root", a)
		}
		if i > 0 && flo.Less(root, quo.Sqrt(l[i-1])) {
			t.Errorf("the root of %x is less than that of %x", a, l[i-1])
		}
	}
	// Both noughts are equal, so neither root may be less.
	if !flo.Equal(quo.Sqrt(low), quo.Sqrt(0)) {
		t.Error("the roots of the noughts differ")
	}
}

// P3.7
func TestSigns(t *testing.T) {
	for _, a := range samples(1000) {
		check(t, "Div", quo.Div, []row{{a, one, flo.Canon(a)}, {a, one | low, flo.Neg(a)}})
		if finite(a) && !zero(a) {
			check(t, "Div", quo.Div, []row{{a, a, one}, {a, a ^ low, one | low}})
		}
	}
	pairs(func(a, b api.Num) {
		check(t, "Div", quo.Div, []row{{flo.Neg(a), b, flo.Neg(quo.Div(a, b))}})
		check(t, "Rem", quo.Rem, []row{{flo.Neg(a), b, flo.Neg(quo.Rem(a, b))}})
	})
}

// P3.8
func TestTwice(t *testing.T) {
	pairs(func(a, b api.Num) {
		rest := quo.Rem(a, b)
		check(t, "Rem", quo.Rem, []row{{rest, b, rest}})
		if flo.Less(flo.Abs(a), flo.Abs(b)) {
			check(t, "Rem", quo.Rem, []row{{a, b, a}})
		}
	})
}
