package dec_test

import (
	"math"
	"math/big"
	"math/rand"
	"regexp"
	"strconv"
	"strings"
	"testing"

	"minstrel/api"
	"minstrel/dec"
	"minstrel/flo"
)

const (
	low  = api.Num(1) << 63 // the nought below 0, and the sign's bit
	most = api.Num(0x7fefffffffffffff)
	inf  = api.Num(0x7ff0000000000000)
	nan  = api.Num(0x7ff8000000000000)
)

func num(f float64) api.Num   { return api.Num(math.Float64bits(f)) }
func float(a api.Num) float64 { return math.Float64frombits(uint64(a)) }
func noughts(n int) string    { return strings.Repeat("0", n) }
func nines(n int) string      { return strings.Repeat("9", n) }

func power(base int64, exp int) *big.Int {
	return new(big.Int).Exp(big.NewInt(base), big.NewInt(int64(exp)), nil)
}

// powerOf is base^exp, of either sign of exp.
func powerOf(base int64, exp int) *big.Rat {
	if exp < 0 {
		return new(big.Rat).SetFrac(big.NewInt(1), power(base, -exp))
	}
	return new(big.Rat).SetInt(power(base, exp))
}

// exact is the value of a finite number, without rounding.
func exact(a api.Num) *big.Rat { return new(big.Rat).SetFloat64(float(a)) }

// read is the number nearest to what numerals with short exponents say: the library's fractions are rounded once.
func read(t *testing.T, s string) api.Num {
	t.Helper()
	r, ok := new(big.Rat).SetString(s)
	if !ok {
		t.Fatalf("%.60q is no fraction", s)
	}
	f, _ := r.Float64()
	return num(f)
}

// mustParse holds Parse against want.
func mustParse(t *testing.T, s string, want api.Num) {
	t.Helper()
	if a, e := dec.Parse(s); a != want || e != api.OK {
		t.Errorf("Parse(%.60q, of %d bytes) = %x, %d, want %x (%g)", s, len(s), a, e, want, float(want))
	}
}

func mustRefuse(t *testing.T, s string, want api.Errno) {
	t.Helper()
	if a, e := dec.Parse(s); a != 0 || e != want {
		t.Errorf("Parse(%.60q, of %d bytes) = %x, %d, want 0, %d", s, len(s), a, e, want)
	}
}

func mustPrint(t *testing.T, a api.Num, want string) {
	t.Helper()
	if s := dec.Print(a); s != want {
		t.Errorf("Print(%x) = %q, want %q", a, s, want)
	}
}

// finites are the finite numbers, not below 0, about all the chapter's edges, and numbers by chance, always the same ones.
func finites(n int) []api.Num {
	l := []api.Num{1, 2, 3, 4, 5, 9, 10, 19, 20, 21, 1<<52 - 1, 1 << 52, 1<<52 + 1, most - 1, most}
	for e := api.Num(1); e < 2047; e++ {
		l = append(l, e<<52-1, e<<52, e<<52+1)
	}
	for b := range 52 {
		l = append(l, 1<<b)
	}
	for e := -324; e < 309; e++ {
		a := num(floatOf("1e" + strconv.Itoa(e)))
		l = append(l, a, a+1)
		if a > 0 {
			l = append(l, a-1)
		}
	}
	l = append(l, ties(n/10+20)...)
	r := rand.New(rand.NewSource(7))
	for range n {
		tenths := float64(r.Intn(1e6)) / math.Pow10(r.Intn(12))
		l = append(l, api.Num(r.Uint64()%uint64(inf)), api.Num(r.Uint64()>>12), num(math.Abs(r.NormFloat64())), num(tenths), num(float64(r.Int63n(1<<60)>>r.Intn(60))))
	}
	return l
}

// floatOf is what the library reads: beyond the greatest number an infinity, with an error.
func floatOf(s string) float64 {
	f, _ := strconv.ParseFloat(s, 64)
	return f
}

// ties are numbers whose digits, told to the end, are one more than the fewest, and the last one is a 5: two numerals with the fewest are as near.
func ties(n int) []api.Num {
	var l []api.Num
	r := rand.New(rand.NewSource(8))
	for len(l) < n {
		a := num(math.Ldexp(float64(r.Intn(1<<12)|1), -r.Intn(12)-16))
		whole := strings.TrimRight(strconv.FormatFloat(float(a), 'e', 40, 64)[:42], "0")
		short := strconv.FormatFloat(float(a), 'e', -1, 64)
		if whole[len(whole)-1] == '5' && len(short[:strings.IndexByte(short, 'e')]) == len(whole)-1 {
			last := len(whole) - 2
			lower := whole[:last+1] + short[strings.IndexByte(short, 'e'):]
			upper := whole[:last] + string(whole[last]+1) + short[strings.IndexByte(short, 'e'):]
			if whole[last] != '9' && num(floatOf(lower)) == a && num(floatOf(upper)) == a {
				l = append(l, a)
			}
		}
	}
	return l
}

// P5.1: what is a numeral, of every short text of the letters that matter.
func TestNumerals(t *testing.T) {
	form := regexp.MustCompile(`^[0-9]+(\.[0-9]+)?([eE][+-]?[0-9]+)?$`)
	const letters = "09.eE+-x"
	var try func(s string, more int)
	try = func(s string, more int) {
		if form.MatchString(s) {
			mustParse(t, s, num(floatOf(s)))
		} else {
			mustRefuse(t, s, api.ErrForm)
		}
		for i := 0; more > 0 && i < len(letters); i++ {
			try(s+letters[i:i+1], more-1)
		}
	}
	try("", 6)
}

// P5.1: texts that are no numerals.
func TestNoNumerals(t *testing.T) {
	for _, s := range []string{
		"", " ", "-1", "+1", "-0", ".", ".5", "5.", "1.e5", ".e1", "e5", "E", "e", "1e", "1E", "1e+", "1e-", "1.5e", "1.5e+",
		"1 ", " 1", "1\n", "1\x00", "\x001", "1e5 ", "1e5x", "1e5.5", "1e5e5", "1e+-5", "1e++5", "1..5", "1.5.5", "1,5", "1_000", "1._5",
		"0x1", "0x1p4", "0b1", "1f", "1p5", "inf", "Inf", "infinity", "nan", "NaN", "-inf", "١", "１", "1e１", "1\xff", "\x80",
		"1-", "1+", "1-5", "1e5-", "/", ":", "1/2", "1:2", "0e/", "0e:", "0./", "0.:",
	} {
		mustRefuse(t, s, api.ErrForm)
	}
}

// P5.1: a text of 400 bytes is read, one of 401 is too long, whatever stands in it.
func TestLength(t *testing.T) {
	mustParse(t, noughts(399)+"7", num(7))
	mustParse(t, "1"+noughts(395)+"e-0", inf)
	mustParse(t, "0."+noughts(397)+"1", 0)
	mustParse(t, "0."+strings.Repeat("3", 398), num(1.0/3))
	mustParse(t, strings.Repeat("1", 308)+"."+nines(91), read(t, strings.Repeat("1", 308)+"."+nines(91)))
	mustParse(t, strings.Repeat("1", 400), inf)
	mustRefuse(t, noughts(399)+"x", api.ErrForm)
	mustRefuse(t, noughts(399)+".", api.ErrForm)
	mustRefuse(t, noughts(399)+"e", api.ErrForm)
	for _, s := range []string{noughts(401), strings.Repeat("1", 401), "0." + noughts(399), "1e" + noughts(399), noughts(400) + "x", strings.Repeat("x", 401), noughts(400) + ".", strings.Repeat("1", 1<<20)} {
		mustRefuse(t, s, api.ErrLong)
	}
}

// P5.1: digits of an exponent are a number, however many there are.
func TestExponents(t *testing.T) {
	for s, want := range map[string]api.Num{
		"1e0": num(1), "1E0": num(1), "1e+0": num(1), "1e-0": num(1), "12e1": num(120), "12E+1": num(120), "12e-1": num(1.2), "1.25e2": num(125),
		"1e308": num(1e308), "1e309": inf, "1e400": inf, "1e401": inf, "1e1000": inf, "1e-323": 2, "1e-324": 0, "1e-400": 0, "1e-1000": 0,
		"1e2147483648": inf, "1e-2147483648": 0, "1e4294967296": inf, "1e4294967297": inf, "1e-4294967297": 0,
		"1e9223372036854775807": inf, "1e9223372036854775808": inf, "1e-9223372036854775808": 0, "1e-9223372036854775809": 0,
		"1e18446744073709551616": inf, "1e18446744073709551617": inf, "1e-18446744073709551617": 0,
		"0e99999999999999999999": 0, "0e-99999999999999999999": 0, "0.00e18446744073709551617": 0,
	} {
		mustParse(t, s, want)
	}
	mustParse(t, "1e"+nines(398), inf)
	mustParse(t, "1e-"+nines(397), 0)
	mustParse(t, "1e+1"+noughts(396), inf)
	mustParse(t, "0e"+nines(398), 0)
	mustParse(t, "0.0e-"+nines(395), 0)
	mustParse(t, "3e"+noughts(398), num(3))
	mustParse(t, "3e-"+noughts(397), num(3))
	mustParse(t, "3e"+noughts(397)+"2", num(300))
	mustParse(t, "3e-"+noughts(395)+"10", num(3e-10))
	mustParse(t, "1e"+noughts(389)+"1"+noughts(8), inf)
}

// P5.1: digits ahead that an exponent makes small again, and noughts ahead that it makes great.
func TestExponentsThatMakeUp(t *testing.T) {
	for n := range 395 {
		mustParse(t, "1"+noughts(n)+"e-"+strconv.Itoa(n), num(1))
	}
	for n := range 394 {
		mustParse(t, "0."+noughts(n)+"1e"+strconv.Itoa(n+1), num(1))
		mustParse(t, noughts(n)+"5e-1", num(0.5))
	}
	for _, e := range []int{-730, -726, -725, -720, -718, -701, -700, -430, -400, -399, -90, -81, -80, 0} {
		s := nines(390) + "e" + strconv.Itoa(e)
		mustParse(t, s, read(t, s))
		s = "0." + nines(385) + "e" + strconv.Itoa(e)
		mustParse(t, s, read(t, s))
	}
	for _, e := range []int{690, 692, 693, 694, 695, 700, 80, 5, 0} {
		s := "0." + noughts(385) + "17e" + strconv.Itoa(e)
		mustParse(t, s, read(t, s))
	}
}

// numeralOf is what n times 2^exp says, told to the end.
func numeralOf(n *big.Int, exp int) string {
	if exp >= 0 {
		return new(big.Int).Mul(n, power(2, exp)).String()
	}
	return new(big.Int).Mul(n, power(5, -exp)).String() + "e" + strconv.Itoa(exp)
}

// P5.1: numerals that lie as near to two numbers are read as the even one, those just beside as the nearer one.
func TestHalfway(t *testing.T) {
	r := rand.New(rand.NewSource(9))
	for exp := -520; exp <= 970; exp++ {
		for _, frac := range []uint64{1 << 52, 1<<52 + 1, 2<<52 - 2, 2<<52 - 1, 1<<52 + r.Uint64()>>12} {
			halfway(t, frac, exp)
		}
	}
	halfway(t, 2<<52-1, 971)
}

// halfway tries the middle of frac times 2^exp and the next number, and what lies a little off it on both sides.
func halfway(t *testing.T, frac uint64, exp int) {
	t.Helper()
	lower := api.Num(uint64(exp+1075)<<52 + frac - 1<<52)
	upper := lower + 1
	even := lower + lower&1
	middle := new(big.Int).SetUint64(2*frac + 1)
	s := numeralOf(middle, exp-1)
	mustParse(t, s, even)
	digits, tail, withE := strings.Cut(s, "e")
	if withE {
		tail = "e" + tail
	}
	mustParse(t, digits+".0000000001"+tail, upper)
	n, _ := new(big.Int).SetString(digits, 10)
	mustParse(t, n.Sub(n, big.NewInt(1)).String()+"."+nines(10)+tail, lower)
	mustParse(t, n.String()+tail, lower)
	mustParse(t, n.Add(n, big.NewInt(2)).String()+tail, upper)
}

// P5.1: about 2^1024, and about the least numbers and half of them.
func TestEnds(t *testing.T) {
	beyond := numeralOf(big.NewInt(1<<54-1), 970) // the middle of the greatest number and 2^1024
	mustParse(t, numeralOf(big.NewInt(1<<53-1), 971), most)
	mustParse(t, beyond, inf)
	mustParse(t, beyond+"."+noughts(50)+"1", inf)
	mustParse(t, beyond[:len(beyond)-1]+"1."+nines(80), most)
	mustParse(t, numeralOf(big.NewInt(1), 1024), inf)
	for s, want := range map[string]api.Num{
		"1.7976931348623157e308": most, "1.7976931348623158e308": most, "1.797693134862315708145274237317e308": most,
		"1.7976931348623159e308": inf, "1.7976931348623158079e308": most, "1.797693134862315808e308": inf, "17976931348623159e292": inf,
		"4.9e-324": 1, "5e-324": 1, "3e-324": 1, "2.5e-324": 1, "2.4703282292062328e-324": 1, "2.4703282292062327e-324": 0, "2e-324": 0, "1e-324": 0,
		"7.4e-324": 1, "7.5e-324": 2, "1e-323": 2,
		"2.2250738585072014e-308": 1 << 52, "2.225073858507201e-308": 1<<52 - 1, "2.2250738585072011e-308": 1<<52 - 1, "2.2250738585072012e-308": 1 << 52,
	} {
		mustParse(t, s, want)
	}
	// Half of the least number and its half again are longer than a numeral may be: the digits that there is room for, and those with the last one, one more.
	for n := int64(1); n < 40; n += 2 {
		digits := numeralOf(big.NewInt(n), -1075)
		digits = digits[:strings.IndexByte(digits, 'e')]
		tail := "e" + strconv.Itoa(len(digits)-1075-390)
		cut, _ := new(big.Int).SetString(digits[:390], 10)
		mustParse(t, cut.String()+tail, api.Num(n/2))
		mustParse(t, cut.Add(cut, big.NewInt(1)).String()+tail, api.Num(n/2+1))
	}
}

// P5.1: numerals by chance, with all their parts, against fractions without rounding.
func TestParseByChance(t *testing.T) {
	r := rand.New(rand.NewSource(10))
	digits := func(n int) string {
		b := make([]byte, n)
		for i := range b {
			b[i] = byte('0' + r.Intn(10))
		}
		return string(b)
	}
	for range 20000 {
		s := digits(1 + r.Intn(20)>>r.Intn(5))
		if r.Intn(2) == 0 {
			s += "." + digits(1+r.Intn(25)>>r.Intn(5))
		}
		if r.Intn(3) > 0 {
			s += string("eE"[r.Intn(2)]) + []string{"", "+", "-"}[r.Intn(3)] + noughts(r.Intn(3)) + strconv.Itoa(r.Intn(345)>>r.Intn(8))
		}
		mustParse(t, s, read(t, s))
	}
	for range 2000 {
		s := digits(1+r.Intn(190)) + "." + digits(1+r.Intn(190)) + "e" + strconv.Itoa(r.Intn(1000)-500)
		mustParse(t, s, read(t, s))
	}
}

// P5.2: numbers that are none, the infinities and the noughts.
func TestPrintWords(t *testing.T) {
	for _, a := range []api.Num{inf + 1, nan - 1, nan, nan + 1, 1<<63 - 1, inf + 1<<50} {
		mustPrint(t, a, "nan")
		mustPrint(t, a|low, "nan")
	}
	mustPrint(t, inf, "inf")
	mustPrint(t, inf|low, "-inf")
	mustPrint(t, 0, "0")
	mustPrint(t, low, "-0")
}

// P5.2: numbers of every form: the fewest digits, and where the dot and the e stand.
func TestPrintForms(t *testing.T) {
	x, y := 0.1, 0.2
	for _, w := range []struct {
		f    float64
		want string
	}{
		{1, "1"}, {2.5, "2.5"}, {10, "10"}, {0.1, "0.1"}, {x + y, "0.30000000000000004"}, {123456789, "123456789"}, {1.0 / 3, "0.3333333333333333"}, {100.125, "100.125"},
		{1e-8, "1e-8"}, {1.5e-8, "1.5e-8"}, {9.999999e-8, "9.999999e-8"}, {1e-7, "0.0000001"}, {1.5e-7, "0.00000015"}, {1.25e-6, "0.00000125"}, {0.5, "0.5"}, {0.012, "0.012"},
		{1e20, "100000000000000000000"}, {1.5e20, "150000000000000000000"}, {123456789012345680000, "123456789012345680000"}, {999999999999999900000, "999999999999999900000"},
		{1e21, "1e+21"}, {1.5e21, "1.5e+21"}, {1.2345678e25, "1.2345678e+25"}, {1e100, "1e+100"}, {1.5e300, "1.5e+300"}, {1e-100, "1e-100"}, {1.5e-300, "1.5e-300"},
		{0x1p53, "9007199254740992"}, {0x1p60, "1152921504606847000"}, {0x1p63, "9223372036854776000"}, {123456.789, "123456.789"}, {4.35, "4.35"},
		{5e-324, "5e-324"}, {0x1p-1073, "1e-323"}, {0x3p-1074, "1.5e-323"}, {0x9p-1074, "4.4e-323"}, {0x1p-1022, "2.2250738585072014e-308"}, {math.MaxFloat64, "1.7976931348623157e+308"},
		{1e23, "1e+23"}, {9e22, "9e+22"}, {0x1p-44, "5.684341886080802e-14"}, {0x1p-24, "5.960464477539063e-8"}, {0x3p-24, "0.00000017881393432617188"},
	} {
		mustPrint(t, num(w.f), w.want)
		mustPrint(t, num(-w.f), "-"+w.want)
	}
}

// shortest is what the chapter asks for, word by word: the fewest digits that are read as a, of those the nearest, of two the even one; and the power of ten of the first.
func shortest(t *testing.T, a api.Num) (string, int) {
	t.Helper()
	v := exact(a)
	e := int(math.Floor(math.Log10(float(a))))
	for v.Cmp(powerOf(10, e)) < 0 {
		e--
	}
	for v.Cmp(powerOf(10, e+1)) >= 0 {
		e++
	}
	for n := 1; n < 18; n++ {
		unit := powerOf(10, e-n+1)
		q := new(big.Rat).Quo(v, unit)
		down := new(big.Int).Quo(q.Num(), q.Denom())
		var best *big.Int
		var off *big.Rat
		for _, c := range []*big.Int{down, new(big.Int).Add(down, big.NewInt(1))} {
			said := new(big.Rat).Mul(new(big.Rat).SetInt(c), unit)
			if f, _ := said.Float64(); num(f) != a {
				continue
			}
			d := new(big.Rat).Sub(said, v)
			d.Abs(d)
			if best == nil || d.Cmp(off) < 0 || d.Cmp(off) == 0 && c.Bit(0) == 0 {
				best, off = c, d
			}
		}
		if best != nil {
			s := best.String()
			return strings.TrimRight(s, "0"), e + len(s) - n
		}
	}
	t.Fatalf("%x has no numeral of 17 digits", a)
	return "", 0
}

// laidOut lays digits into a row of noughts, and takes away those that are not needed.
func laidOut(digits string, e int) string {
	if e < -7 || e > 20 {
		s := digits[:1]
		if len(digits) > 1 {
			s += "." + digits[1:]
		}
		if e < 0 {
			return s + "e" + strconv.Itoa(e)
		}
		return s + "e+" + strconv.Itoa(e)
	}
	row := noughts(8) + digits + noughts(30)
	ahead, behind := strings.TrimLeft(row[:9+e], "0"), strings.TrimRight(row[9+e:], "0")
	if ahead == "" {
		ahead = "0"
	}
	if behind != "" {
		behind = "." + behind
	}
	return ahead + behind
}

// P5.2: the fewest digits, and of those the nearest, against fractions without rounding.
func TestPrintShortest(t *testing.T) {
	for i, a := range finites(300) {
		if a == 0 {
			continue
		}
		want := laidOut(shortest(t, a))
		mustPrint(t, a, want)
		if i%10 == 0 {
			mustPrint(t, a|low, "-"+want)
		}
	}
}

// P5.2: of two numerals that are as near the one whose last digit is even.
func TestPrintTies(t *testing.T) {
	odd := 0
	for _, a := range ties(200) {
		digits, e := shortest(t, a)
		if last := digits[len(digits)-1]; last%2 != 0 {
			odd++
		}
		mustPrint(t, a, laidOut(digits, e))
	}
	if odd > 0 {
		t.Errorf("%d of 200 end with an odd digit", odd)
	}
}

// P5.2: all powers of two, where the number below is half as far as the one above: what is printed must be read as the number itself.
func TestPrintPowersOfTwo(t *testing.T) {
	for e := -1074; e < 1024; e++ {
		a := num(math.Ldexp(1, e))
		want := laidOut(shortest(t, a))
		mustPrint(t, a, want)
		if read(t, want) != a {
			t.Errorf("2^%d: %s is not read as it", e, want)
		}
	}
}

// P5.2: as many digits as the library finds to be the fewest.
func TestPrintByChance(t *testing.T) {
	for _, a := range finites(20000) {
		digits, _, _ := strings.Cut(strconv.FormatFloat(float(a), 'e', -1, 64), "e")
		digits = strings.Trim(strings.Replace(digits, ".", "", 1), "0")
		if got := significant(dec.Print(a)); len(got) != len(digits) {
			t.Errorf("Print(%x) = %s, of %d digits, want %d", a, dec.Print(a), len(got), len(digits))
		}
	}
}

// significant are the digits of a numeral without noughts ahead or behind.
func significant(s string) string {
	s, _, _ = strings.Cut(strings.TrimPrefix(s, "-"), "e")
	return strings.Trim(strings.Replace(s, ".", "", 1), "0")
}

// P5.3, P5.4: what is printed is read as the number again, and has at most 17 digits.
func TestThereAndBack(t *testing.T) {
	for _, a := range append(finites(20000), 0) {
		s := dec.Print(a)
		mustParse(t, s, a)
		if n := len(significant(s)); n > 17 {
			t.Errorf("Print(%x) = %s has %d digits", a, s, n)
		}
		if neg := dec.Print(flo.Neg(a)); neg != "-"+s {
			t.Errorf("Print of Neg of %x = %s, want -%s", a, neg, s)
		}
	}
}

// P5.5: noughts behind the digits behind a dot, or an e0, change nothing.
func TestNoughtsBehind(t *testing.T) {
	for _, a := range finites(2000) {
		s := dec.Print(a)
		head, tail, withE := strings.Cut(s, "e")
		if !strings.Contains(head, ".") {
			head += ".0"
		}
		if withE {
			tail = "e" + tail
		} else {
			for _, none := range []string{"e0", "E0", "e+0", "e-0", "e000", "E-00"} {
				mustParse(t, s+none, a)
				mustParse(t, head+none, a)
			}
		}
		for _, n := range []int{0, 1, 2, 17, 300} {
			mustParse(t, head+noughts(n)+tail, a)
		}
	}
}

// P5.6: of two numerals with as many digits and one exponent the greater one is not read as the lesser number.
func TestRises(t *testing.T) {
	r := rand.New(rand.NewSource(11))
	for range 5000 {
		n := 1 + r.Intn(30)
		room := power(10, n)
		lower := new(big.Int).Rand(r, room)
		upper := new(big.Int).Add(lower, big.NewInt(1+r.Int63n(1<<r.Intn(40))))
		if upper.Cmp(room) >= 0 {
			continue
		}
		tail := []string{"", "e5", "e-5", "e300", "e-340", "e-330", "e290", "e-308"}[r.Intn(8)]
		pad := func(b *big.Int) string { return noughts(n-len(b.String())) + b.String() + tail }
		a, e := dec.Parse(pad(lower))
		b, f := dec.Parse(pad(upper))
		if e != api.OK || f != api.OK || flo.Less(b, a) {
			t.Errorf("Parse(%s) = %x, %d, and Parse(%s) = %x, %d", pad(lower), a, e, pad(upper), b, f)
		}
	}
}

// No text and no bits let a call panic; what is no numeral is told by the form alone.
func TestAnything(t *testing.T) {
	form := regexp.MustCompile(`^[0-9]+(\.[0-9]+)?([eE][+-]?[0-9]+)?$`)
	r := rand.New(rand.NewSource(12))
	for range 50000 {
		b := []byte("12.5e+10")
		if r.Intn(4) == 0 {
			b = make([]byte, r.Intn(420))
			r.Read(b)
		}
		for range r.Intn(4) {
			if len(b) > 0 {
				b[r.Intn(len(b))] = "0123456789.eE+- \x00\xffx"[r.Intn(19)]
			}
		}
		s := string(b)
		a, e := dec.Parse(s)
		switch {
		case len(s) > api.MaxDigits && (e != api.ErrLong || a != 0),
			len(s) <= api.MaxDigits && !form.MatchString(s) && (e != api.ErrForm || a != 0),
			len(s) <= api.MaxDigits && form.MatchString(s) && e != api.OK:
			t.Errorf("Parse(%q) = %x, %d", s, a, e)
		}
		if dec.Print(api.Num(r.Uint64())) == "" {
			t.Error("Print answers nothing")
		}
	}
}
