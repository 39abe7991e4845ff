package sum_test

import (
	"math"
	"math/big"
	"math/rand"
	"testing"

	"minstrel/api"
	"minstrel/flo"
	"minstrel/sum"
)

const (
	low  = api.Num(1) << 63 // the nought below 0, and the sign's bit
	one  = api.Num(0x3ff0000000000000)
	most = api.Num(0x7fefffffffffffff)
	inf  = api.Num(0x7ff0000000000000)
	nan  = api.Num(0x7ff8000000000000)
)

type reckon func(a, b api.Num) api.Num

type row struct{ a, b, want api.Num }

func num(f float64) api.Num { return api.Num(math.Float64bits(f)) }

func isNaN(a api.Num) bool  { return a&^low > inf }
func isInf(a api.Num) bool  { return a&^low == inf }
func finite(a api.Num) bool { return a&^low < inf }
func zero(a api.Num) bool   { return a&^low == 0 }

// edges are the numbers without a sign that the chapter names.
func edges() []api.Num {
	return []api.Num{
		0, 1, 2, 3, 1<<52 - 1, 1 << 52, 1<<52 + 1, 2<<52 - 1, 2 << 52,
		num(0x1p-538), num(0x1p-537), num(0x1.8p-537), num(0x1p-511), num(0x1p-512),
		num(0.1), num(0.2), num(0x1p-53), num(0.5), one - 1, one, one + 1, num(1.5), num(3),
		num(1<<53 - 1), num(1 << 53), num(1<<53 + 2), num(1e200),
		num(0x1p511), num(0x1p512), num(0x1p970), num(0x1p969), num(0x1p1023), most - 1, most,
		inf, inf + 1, nan - 1, nan, nan + 1, 1<<63 - 1,
	}
}

// samples are the edges with both signs, and numbers by chance, always the same ones: of all exponents, Tiny, and near 1.
func samples(n int) []api.Num {
	var l []api.Num
	for _, a := range edges() {
		l = append(l, a, a|low)
	}
	r := rand.New(rand.NewSource(2))
	for i := 0; i < n; i++ {
		l = append(l, api.Num(r.Uint64()), api.Num(r.Uint64())&(low|1<<52-1), num(r.NormFloat64()))
	}
	return l
}

// pairs hands on any two of the samples, and pairs that lie near one another, where most is lost.
func pairs(try func(a, b api.Num)) {
	l := samples(60)
	for _, a := range l {
		for _, b := range l {
			try(a, b)
		}
	}
	r := rand.New(rand.NewSource(3))
	for i := 0; i < 20000; i++ {
		a := api.Num(r.Uint64())
		b := a ^ api.Num(r.Uint64())&(low|1<<58-1)
		try(a, b)
		try(a&^(0x7ff<<52)|one, b&^(0x7ff<<52)|one+api.Num(r.Intn(120)-60)<<52)
	}
}

// exactly is a finite number by the library's numbers, which do not round with so many bits.
func exactly(a api.Num) *big.Float {
	return new(big.Float).SetPrec(4400).SetFloat64(math.Float64frombits(uint64(a)))
}

func fresh() *big.Float { return new(big.Float).SetPrec(4400) }

// nearest is what a finite number, reckoned without rounding, comes to: rounded once, here, in whole numbers.
func nearest(x *big.Float) api.Num {
	sign := api.Num(0)
	if x.Signbit() {
		sign = low
	}
	if x.Sign() == 0 {
		return sign
	}
	exp := max(x.MantExp(nil)-53, -1074)
	scaled, _ := fresh().SetMantExp(fresh().Abs(x), -exp).Rat(nil)
	whole, rest := new(big.Int).QuoRem(scaled.Num(), scaled.Denom(), new(big.Int))
	switch c := rest.Lsh(rest, 1).Cmp(scaled.Denom()); {
	case c > 0, c == 0 && whole.Bit(0) == 1:
		whole.Add(whole, big.NewInt(1))
	}
	frac := whole.Uint64()
	if frac < 1<<52 {
		return sign | api.Num(frac)
	}
	// A fraction that was rounded up to the next power of two carries into the exponent's bits.
	bits := api.Num(exp+1074)<<52 + api.Num(frac)
	return sign | min(bits, inf)
}

func wantAdd(a, b api.Num) api.Num {
	switch {
	case isNaN(a) || isNaN(b) || isInf(a) && b == a^low:
		return nan
	case isInf(a):
		return a
	case isInf(b):
		return b
	case zero(a) && zero(b):
		return a & b
	}
	x := fresh().Add(exactly(a), exactly(b))
	if x.Sign() == 0 {
		return 0
	}
	return nearest(x)
}

func wantSub(a, b api.Num) api.Num { return wantAdd(a, b^low) }

func wantMul(a, b api.Num) api.Num {
	sign := (a ^ b) & low
	switch {
	case isNaN(a) || isNaN(b) || isInf(a) && zero(b) || zero(a) && isInf(b):
		return nan
	case isInf(a) || isInf(b):
		return inf | sign
	case zero(a) || zero(b):
		return sign
	}
	return nearest(fresh().Mul(exactly(a), exactly(b)))
}

func check(t *testing.T, name string, f reckon, rows []row) {
	t.Helper()
	for _, x := range rows {
		if got := f(x.a, x.b); got != x.want {
			t.Errorf("%s(%x, %x) = %x, not %x", name, x.a, x.b, got, x.want)
		}
	}
}

// P2.1
func TestFinite(t *testing.T) {
	check(t, "Add", sum.Add, []row{
		{num(1), num(2), num(3)}, {num(-1.5), num(0.25), num(-1.25)}, {num(0.1), num(0.2), 0x3fd3333333333334},
		// two that are as near
		{num(1 << 53), num(1), num(1 << 53)}, {num(1<<53 + 2), num(1), num(1<<53 + 4)}, {num(-1 << 53), num(-1), num(-1 << 53)},
		{one, num(0x1p-53), one}, {one + 1, num(0x1p-53), one + 2}, {one, num(0x1p-53) + 1, one + 1}, {one + 1, num(0x1p-53) - 1, one + 1},
		// Tiny ones
		{1, 1, 2}, {1<<52 - 1, 1, 1 << 52}, {1 << 52, 1 | low, 1<<52 - 1}, {3, 1 | low, 2}, {one, 1, one},
		// the greatest one, and beyond
		{most, num(0x1p969), most}, {most, num(0x1p970) - 1, most}, {most, num(0x1p970), inf}, {most, most, inf}, {num(0x1p1023), num(0x1p1023), inf},
		{most | low, num(-0x1p970), inf | low}, {most | low, num(-0x1p969), most | low}, {most, most | low, 0},
	})
	check(t, "Sub", sum.Sub, []row{
		{num(3), num(2), num(1)}, {num(2), num(3), num(-1)}, {num(0.3), num(0.1), 0x3fc9999999999999},
		{one, num(0x1p-54), one}, {one, num(0x1p-54) + 1, one - 1}, {num(1 << 53), num(-1), num(1 << 53)},
		{1, 2, 1 | low}, {1 << 52, 1<<52 - 1, 1}, {one + 1, one, num(0x1p-52)},
		{most, num(-0x1p970), inf}, {most | low, most, inf | low}, {most | low, num(0x1p969), most | low},
	})
	check(t, "Mul", sum.Mul, []row{
		{num(3), num(-4), num(-12)}, {num(-0.5), num(-0.5), num(0.25)}, {num(0.1), num(3), 0x3fd3333333333334},
		{one + 1, num(1.5), num(1.5) + 2}, {one + 3, num(1.5), num(1.5) + 4}, {num(1<<53 - 1), num(1<<53 + 2), num(1<<53) + 53<<52},
		// products that become Tiny or a nought
		{1, num(0.5), 0}, {1, num(0.5) + 1, 1}, {3, num(0.5), 2}, {1, num(1.5), 2}, {5, num(0.5), 2}, {1<<52 + 1, num(0.5), 1 << 51}, {1<<52 + 3, num(0.5), 1<<51 + 2}, {2<<52 - 1, num(0.5), 1 << 52},
		{num(0x1p-537), num(0x1p-537), 1}, {num(0x1p-538), num(0x1p-537), 0}, {num(0x1p-538), num(0x1p-537) + 1, 1}, {num(0x1p-511), num(0x1p-511), 1 << 52}, {1, 1, 0},
		{1 | low, num(0.5), low}, {1, 1 | low, low}, {1 | low, 1 | low, 0},
		// the greatest one, and beyond
		{most, one, most}, {most, one + 1, inf}, {most - 1, one + 1, inf}, {num(0x1p1023), num(2), inf}, {num(0x1p1023), num(2) - 1, most},
		{num(1e200), num(1e200), inf}, {num(-1e200), num(1e200), inf | low}, {num(0x1p512), num(0x1p511), num(0x1p1023)}, {num(0x1p512), num(0x1p512), inf},
	})
}

// P2.1
func TestNoughts(t *testing.T) {
	check(t, "Add", sum.Add, []row{
		{0, 0, 0}, {0, low, 0}, {low, 0, 0}, {low, low, low},
		{num(3), num(-3), 0}, {num(-3), num(3), 0}, {1, 1 | low, 0}, {low, 1, 1}, {1 | low, 0, 1 | low},
	})
	check(t, "Sub", sum.Sub, []row{
		{0, 0, 0}, {0, low, 0}, {low, 0, low}, {low, low, 0},
		{num(3), num(3), 0}, {num(-3), num(-3), 0}, {1 | low, 1 | low, 0}, {0, 1, 1 | low}, {low, 1 | low, 1},
	})
	check(t, "Mul", sum.Mul, []row{
		{0, 0, 0}, {0, low, low}, {low, 0, low}, {low, low, 0},
		{0, num(-1), low}, {num(-1), 0, low}, {low, num(-1), 0}, {num(-1), low, 0}, {low, most, low}, {0, most, 0}, {1, low, low},
	})
}

// P2.1, P2.2
func TestAnyTwo(t *testing.T) {
	pairs(func(a, b api.Num) {
		check(t, "Add", sum.Add, []row{{a, b, wantAdd(a, b)}})
		check(t, "Sub", sum.Sub, []row{{a, b, wantSub(a, b)}})
		check(t, "Mul", sum.Mul, []row{{a, b, wantMul(a, b)}})
	})
}

// P2.2
func TestInfinities(t *testing.T) {
	down := inf | low
	check(t, "Add", sum.Add, []row{
		{inf, inf, inf}, {down, down, down}, {inf, down, nan}, {down, inf, nan},
		{inf, num(-5), inf}, {num(-5), inf, inf}, {down, most, down}, {most, down, down}, {inf, low, inf}, {1, down, down},
	})
	check(t, "Sub", sum.Sub, []row{
		{inf, inf, nan}, {down, down, nan}, {inf, down, inf}, {down, inf, down},
		{inf, num(5), inf}, {num(5), inf, down}, {down, num(5), down}, {num(5), down, inf}, {low, inf, down}, {most, inf, down},
	})
	check(t, "Mul", sum.Mul, []row{
		{inf, inf, inf}, {inf, down, down}, {down, inf, down}, {down, down, inf},
		{inf, 0, nan}, {0, inf, nan}, {inf, low, nan}, {low, inf, nan}, {down, 0, nan}, {0, down, nan}, {down, low, nan}, {low, down, nan},
		{inf, 1, inf}, {1 | low, inf, down}, {down, num(-0.5), inf}, {most, down, down},
	})
}

// P2.2
func TestNaNs(t *testing.T) {
	for _, n := range []api.Num{inf + 1, nan - 1, nan, nan + 1, 1<<63 - 1, inf + 1<<50} {
		for _, n := range []api.Num{n, n | low} {
			for _, a := range samples(10) {
				rows := []row{{n, a, nan}, {a, n, nan}}
				check(t, "Add", sum.Add, rows)
				check(t, "Sub", sum.Sub, rows)
				check(t, "Mul", sum.Mul, rows)
			}
		}
	}
}

// P2.3
func TestEitherWay(t *testing.T) {
	pairs(func(a, b api.Num) {
		check(t, "Add", sum.Add, []row{{a, b, sum.Add(b, a)}})
		check(t, "Mul", sum.Mul, []row{{a, b, sum.Mul(b, a)}})
		check(t, "Sub", sum.Sub, []row{{a, b, sum.Add(a, flo.Neg(b))}})
	})
}

// P2.4
func TestWholeNumbers(t *testing.T) {
	whole := func(i int64) api.Num { return num(float64(i)) }
	r := rand.New(rand.NewSource(4))
	for i := 0; i < 20000; i++ {
		a, b := r.Int63()>>(10+i%53), r.Int63()>>(10+i/53%53)
		if i%2 == 1 {
			a = -a
		}
		if a+b > -1<<53 && a+b < 1<<53 {
			check(t, "Add", sum.Add, []row{{whole(a), whole(b), whole(a + b)}})
		}
		if a-b > -1<<53 && a-b < 1<<53 {
			check(t, "Sub", sum.Sub, []row{{whole(a), whole(b), whole(a - b)}})
		}
		if p := new(big.Int).Mul(big.NewInt(a), big.NewInt(b)); p.BitLen() <= 53 {
			// Nought times one below 0 has a sign, which whole numbers have not.
			if a != 0 && b != 0 {
				check(t, "Mul", sum.Mul, []row{{whole(a), whole(b), whole(a * b)}})
			}
		}
	}
	check(t, "Add", sum.Add, []row{{whole(1<<53 - 2), one, whole(1<<53 - 1)}, {whole(1 << 52), whole(1<<52 - 1), whole(1<<53 - 1)}})
	check(t, "Sub", sum.Sub, []row{{whole(1<<53 - 1), whole(1<<53 - 2), one}, {whole(2 - 1<<53), one, whole(1 - 1<<53)}})
	check(t, "Mul", sum.Mul, []row{{whole(6361), whole(69431), whole(6361 * 69431)}, {whole(1<<53 - 1), one, whole(1<<53 - 1)}, {whole(1<<26 - 1), whole(1<<27 - 1), whole((1<<26 - 1) * (1<<27 - 1))}})
}

// P2.5
func TestWhatIsLost(t *testing.T) {
	rounded := 0
	pairs(func(a, b api.Num) {
		if flo.Less(flo.Abs(a), flo.Abs(b)) {
			a, b = b, a
		}
		s := sum.Add(a, b)
		if !finite(a) || !finite(b) || !finite(s) {
			return
		}
		lost := sum.Sub(b, sum.Sub(s, a))
		got, want := fresh().Add(exactly(s), exactly(lost)), fresh().Add(exactly(a), exactly(b))
		if got.Cmp(want) != 0 {
			t.Errorf("%x and %x: %x lacks %x", a, b, s, lost)
		}
		if !zero(lost) {
			rounded++
		}
	})
	if rounded < 1000 {
		t.Errorf("only %d sums were rounded", rounded)
	}
}

// P2.6
func TestRises(t *testing.T) {
	l := samples(20)
	for _, c := range l {
		if !finite(c) {
			continue
		}
		for _, a := range l {
			for _, b := range l {
				if !finite(a) || !finite(b) || !flo.Less(a, b) {
					continue
				}
				if flo.Less(sum.Add(b, c), sum.Add(a, c)) {
					t.Errorf("%x is less than %x, but not with %x added", a, b, c)
				}
				if c&low == 0 && flo.Less(sum.Mul(b, c), sum.Mul(a, c)) {
					t.Errorf("%x is less than %x, but not times %x", a, b, c)
				}
			}
		}
	}
}

// P2.7
func TestNothing(t *testing.T) {
	for _, a := range samples(1000) {
		if isNaN(a) {
			check(t, "Add", sum.Add, []row{{a, 0, nan}, {a, low, nan}})
			check(t, "Sub", sum.Sub, []row{{a, a, nan}})
			check(t, "Mul", sum.Mul, []row{{a, one, nan}})
			continue
		}
		for _, nought := range []api.Num{0, low} {
			if !flo.Equal(sum.Add(a, nought), a) || !flo.Equal(sum.Sub(a, nought), a) {
				t.Errorf("%x and %x are not Equal to it", a, nought)
			}
		}
		check(t, "Mul", sum.Mul, []row{{a, one, a}, {one, a, a}})
		if isInf(a) {
			check(t, "Sub", sum.Sub, []row{{a, a, nan}})
		} else {
			check(t, "Sub", sum.Sub, []row{{a, a, 0}})
		}
	}
}
