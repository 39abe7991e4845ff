package value_test

import (
	"math"
	"math/rand"
	"regexp"
	"strconv"
	"strings"
	"testing"

	"minstrel/api"
	"minstrel/dec"
	"minstrel/flo"
	"minstrel/value"
)

const (
	low  = api.Num(1) << 63 // the nought below 0, and the sign's bit
	most = api.Num(0x7fefffffffffffff)
	inf  = api.Num(0x7ff0000000000000)
	nan  = api.Num(0x7ff8000000000000)
)

func num(f float64) api.Num   { return api.Num(math.Float64bits(f)) }
func float(a api.Num) float64 { return math.Float64frombits(uint64(a)) }
func isNaN(a api.Num) bool    { return a&^low > inf }
func finite(a api.Num) bool   { return a&^low < inf }

// kinds are the kinds that there are, in their order.
func kinds() []int {
	return []int{api.Nil, api.False, api.True, api.Number, api.Text, api.Table, api.Func, api.Co, api.Lib}
}

// noKinds are numbers that are no kind, some of which are one in their lower bits.
func noKinds() []int {
	return []int{-1, -3, -5, api.Box, 10, 77, 127, 128, 255, 256, 257, 258, 259, 260, 261, 264, 1<<16 + 2, 1<<16 + 4, math.MinInt, math.MinInt + 3, math.MinInt + 5, math.MaxInt, math.MaxInt32}
}

// nans are NaNs of many bit patterns, of both signs, the one of Canon among them.
func nans() []api.Num {
	l := []api.Num{nan, nan - 1, nan + 1, inf + 1, 1<<63 - 1, num(math.NaN())}
	for b := range 52 {
		l = append(l, inf|1<<b)
	}
	for _, a := range l {
		l = append(l, a|low)
	}
	return l
}

// numbers are those that are no NaN: noughts, infinities, and each kind's first and last one, of both signs.
func numbers() []api.Num {
	l := []api.Num{
		0, 1, 2, 1<<52 - 1, 1 << 52, 1<<52 + 1, num(0.1), num(0.5), num(1) - 1, num(1), num(1) + 1, num(1.5), num(2), num(3), num(4), num(5), num(8),
		num(1e-8), num(1e-7), num(1e20), num(1e21), num(1<<53 - 1), num(1 << 53), num(1<<53 + 2), num(123456789), num(1e300), most - 1, most, inf,
	}
	for _, a := range l {
		l = append(l, a|low)
	}
	return l
}

func texts() []string {
	return []string{
		"", "a", "A", "b", "ab", "a ", " a", "a\x00", "\x00", "\x00a", "\xff", "\xc3\xa4", "nil", "false", "true", "nan", "inf", "-inf",
		"0", "-0", "1", "-1", "01", "1.0", "1e0", "1.5", "number", "string", "table", strings.Repeat("a", 1<<14), strings.Repeat("a", 1<<14) + "b",
	}
}

func objects() []int {
	return []int{0, 1, 2, 3, 4, 5, 8, 9, -1, 255, 256, 257, 1 << 16, math.MaxInt32, math.MinInt32, math.MaxInt, math.MinInt}
}

// samples are values of every kind, and of none, with every number, text and object where they play a part, and some where they play none.
func samples() []api.Value {
	var l []api.Value
	others := []api.Value{{}, {N: num(1)}, {N: low}, {N: inf + 1}, {S: "1"}, {O: 1}, {N: nan, S: "a", O: -1}, {N: num(2), S: "-2", O: 3}}
	for _, k := range append(kinds(), noKinds()...) {
		for _, v := range others {
			v.K = k
			l = append(l, v)
		}
	}
	for _, n := range append(numbers(), nans()...) {
		l = append(l, api.Value{K: api.Number, N: n}, api.Value{K: api.Number, N: n, S: "x", O: 7})
	}
	for _, s := range texts() {
		l = append(l, api.Value{K: api.Text, S: s}, api.Value{K: api.Text, S: s, N: nan + 1, O: 7})
	}
	for _, k := range []int{api.Table, api.Func, api.Co, api.Lib} {
		for _, o := range objects() {
			l = append(l, api.Value{K: k, O: o}, api.Value{K: k, O: o, N: low, S: "x"})
		}
	}
	return l
}

// kindOf is v's kind by the chapter's words: kinds that are none are as Nil.
func kindOf(v api.Value) int {
	if v.K < 0 || v.K > 8 {
		return 0
	}
	return v.K
}

// normalByWords is Normal by the words of P8.1.
func normalByWords(v api.Value) api.Value {
	w := v
	w.K = kindOf(v)
	if w.K != 3 {
		w.N = 0
	}
	if w.K != 4 {
		w.S = ""
	}
	if w.K < 5 {
		w.O = 0
	}
	if w.K == 3 && isNaN(w.N) {
		w.N = nan
	}
	return w
}

// sameByWords is Same by the words of P8.1: noughts are equal, and no NaN is equal to any, as floats have it.
func sameByWords(a, b api.Value) bool {
	if kindOf(a) != kindOf(b) {
		return false
	}
	switch kindOf(a) {
	case 3:
		return float(a.N) == float(b.N)
	case 4:
		return a.S == b.S
	case 5, 6, 7, 8:
		return a.O == b.O
	}
	return true
}

// keyByWords is Key by the words of P8.1.
func keyByWords(v api.Value) (api.Value, bool) {
	w := normalByWords(v)
	if w.K == 0 || w.K == 3 && isNaN(w.N) {
		return api.Value{}, false
	}
	if w.K == 3 && w.N == low {
		w.N = 0
	}
	return w, true
}

// told is a value short enough to be told, however long its text is.
func told(v api.Value) string {
	s := v.S
	if len(s) > 20 {
		s = s[:20] + ".."
	}
	return "{" + strconv.Itoa(v.K) + " " + strconv.FormatUint(uint64(v.N), 16) + " " + strconv.Quote(s) + " " + strconv.Itoa(v.O) + "}"
}

func mustNormal(t *testing.T, v, want api.Value) {
	t.Helper()
	if got := value.Normal(v); got != want {
		t.Errorf("Normal(%s) = %s, want %s", told(v), told(got), told(want))
	}
}

func mustKey(t *testing.T, v, want api.Value, ok bool) {
	t.Helper()
	if got, is := value.Key(v); got != want || is != ok {
		t.Errorf("Key(%s) = %s, %t, want %s, %t", told(v), told(got), is, told(want), ok)
	}
}

func mustSame(t *testing.T, a, b api.Value, want bool) {
	t.Helper()
	if got := value.Same(a, b); got != want {
		t.Errorf("Same(%s, %s) = %t, want %t", told(a), told(b), got, want)
	}
}

func mustToNum(t *testing.T, v api.Value, want api.Num, ok bool) {
	t.Helper()
	if got, is := value.ToNum(v); got != want || is != ok {
		t.Errorf("ToNum(%s) = %x, %t, want %x, %t", told(v), got, is, want, ok)
	}
}

func mustRead(t *testing.T, s string, want api.Num) {
	t.Helper()
	mustToNum(t, api.Value{K: api.Text, S: s}, want, true)
}

func mustNotRead(t *testing.T, s string) {
	t.Helper()
	mustToNum(t, api.Value{K: api.Text, S: s}, 0, false)
}

// P8.1: of each kind what plays a part, and nothing else.
func TestNormal(t *testing.T) {
	all := api.Value{N: num(1.5), S: "s", O: 9}
	for k, want := range map[int]api.Value{
		api.Nil: {}, api.False: {K: 1}, api.True: {K: 2}, api.Number: {K: 3, N: num(1.5)}, api.Text: {K: 4, S: "s"},
		api.Table: {K: 5, O: 9}, api.Func: {K: 6, O: 9}, api.Co: {K: 7, O: 9}, api.Lib: {K: 8, O: 9},
		api.Box: {}, -1: {}, 10: {}, 77: {}, math.MinInt: {}, math.MaxInt: {},
	} {
		v := all
		v.K = k
		mustNormal(t, v, want)
	}
	for _, v := range samples() {
		mustNormal(t, v, normalByWords(v))
	}
}

// P8.1: Normal makes every NaN the one, and leaves every other number, the nought below 0 too, bit for bit.
func TestNormalNumbers(t *testing.T) {
	for _, n := range nans() {
		mustNormal(t, api.Value{K: api.Number, N: n}, api.Value{K: api.Number, N: nan})
	}
	for _, n := range numbers() {
		mustNormal(t, api.Value{K: api.Number, N: n}, api.Value{K: api.Number, N: n})
	}
	r := rand.New(rand.NewSource(1))
	for range 5000 {
		v := api.Value{K: api.Number, N: api.Num(r.Uint64())}
		mustNormal(t, v, normalByWords(v))
	}
}

// P8.1: values that are the same, and that differ in kind, number, text or object alone.
func TestSame(t *testing.T) {
	for _, x := range []struct {
		a, b api.Value
		same bool
	}{
		{api.Value{}, api.Value{}, true},
		{api.Value{}, api.Value{O: 5}, true},
		{api.Value{}, api.Value{N: nan, S: "x"}, true},
		{api.Value{}, api.Value{K: 77}, true},
		{api.Value{K: api.Box, O: 1}, api.Value{K: -1, O: 2}, true},
		{api.Value{K: 1}, api.Value{K: 1, N: 1, S: "1", O: 1}, true},
		{api.Value{K: 2, S: "a"}, api.Value{K: 2, S: "b"}, true},
		{api.Value{K: 1}, api.Value{K: 2}, false},
		{api.Value{}, api.Value{K: 1}, false},
		{api.Value{K: 9}, api.Value{K: 1}, false},
		{api.Value{K: 3, N: num(1)}, api.Value{K: 3, N: num(1), S: "1", O: 1}, true},
		{api.Value{K: 3, N: num(1)}, api.Value{K: 3, N: num(1) + 1}, false},
		{api.Value{K: 3, N: num(1)}, api.Value{K: 3, N: num(-1)}, false},
		{api.Value{K: 3, N: 0}, api.Value{K: 3, N: low}, true},
		{api.Value{K: 3, N: 0}, api.Value{K: 3, N: 1}, false},
		{api.Value{K: 3, N: low}, api.Value{K: 3, N: low | 1}, false},
		{api.Value{K: 3, N: inf}, api.Value{K: 3, N: inf}, true},
		{api.Value{K: 3, N: inf}, api.Value{K: 3, N: inf | low}, false},
		{api.Value{K: 3, N: inf}, api.Value{K: 3, N: most}, false},
		{api.Value{K: 3, N: 0}, api.Value{}, false},
		{api.Value{K: 3, N: 0}, api.Value{K: 1}, false},
		{api.Value{K: 3, N: num(1)}, api.Value{K: 4, S: "1"}, false},
		{api.Value{K: 3, N: num(1), S: "1"}, api.Value{K: 4, N: num(1), S: "1"}, false},
		{api.Value{K: 3, N: nan}, api.Value{}, false},
		{api.Value{K: 4, S: "a"}, api.Value{K: 4, S: "a", N: nan, O: 1}, true},
		{api.Value{K: 4, S: ""}, api.Value{K: 4, S: ""}, true},
		{api.Value{K: 4, S: ""}, api.Value{}, false},
		{api.Value{K: 4, S: "a"}, api.Value{K: 4, S: "A"}, false},
		{api.Value{K: 4, S: "a"}, api.Value{K: 4, S: "a\x00"}, false},
		{api.Value{K: 4, S: "1"}, api.Value{K: 4, S: "1.0"}, false},
		{api.Value{K: 5, O: 1}, api.Value{K: 5, O: 1, N: nan, S: "x"}, true},
		{api.Value{K: 5, O: 1}, api.Value{K: 5, O: 2}, false},
		{api.Value{K: 5, O: 1}, api.Value{K: 6, O: 1}, false},
		{api.Value{K: 6, O: 1}, api.Value{K: 8, O: 1}, false},
		{api.Value{K: 6, O: 1}, api.Value{K: 6, O: 257}, false},
		{api.Value{K: 7, O: 1}, api.Value{K: 7, O: -1}, false},
		{api.Value{K: 8, O: 0}, api.Value{K: 8, O: 0}, true},
		{api.Value{K: 8, O: 0}, api.Value{K: 8, O: 1}, false},
	} {
		mustSame(t, x.a, x.b, x.same)
		mustSame(t, x.b, x.a, x.same)
	}
}

// P8.1: Same of any two, against its words.
func TestSameOfAll(t *testing.T) {
	l := samples()
	for _, a := range l {
		for _, b := range l {
			if got, want := value.Same(a, b), sameByWords(a, b); got != want {
				t.Fatalf("Same(%s, %s) = %t, want %t", told(a), told(b), got, want)
			}
		}
	}
}

// P8.1, P8.3: a NaN is the same as none, not as itself either, whatever its bits are.
func TestSameOfNaNs(t *testing.T) {
	l := samples()
	for _, n := range nans() {
		a := api.Value{K: api.Number, N: n}
		mustSame(t, a, a, false)
		for _, b := range l {
			mustSame(t, a, b, false)
			mustSame(t, b, a, false)
		}
	}
}

// P8.1: a key is Normal, a nought without its sign; Nil and NaNs are none, and nothing is told beside false.
func TestKey(t *testing.T) {
	mustKey(t, api.Value{K: 3, N: low}, api.Value{K: 3}, true)
	mustKey(t, api.Value{K: 3, N: 0}, api.Value{K: 3}, true)
	mustKey(t, api.Value{K: 3, N: low, S: "x", O: 4}, api.Value{K: 3}, true)
	mustKey(t, api.Value{K: 3, N: low | 1}, api.Value{K: 3, N: low | 1}, true)
	mustKey(t, api.Value{K: 3, N: num(-1)}, api.Value{K: 3, N: num(-1)}, true)
	mustKey(t, api.Value{K: 3, N: inf}, api.Value{K: 3, N: inf}, true)
	mustKey(t, api.Value{K: 3, N: inf | low}, api.Value{K: 3, N: inf | low}, true)
	mustKey(t, api.Value{K: 1, N: low}, api.Value{K: 1}, true)
	mustKey(t, api.Value{K: 2, O: 2}, api.Value{K: 2}, true)
	mustKey(t, api.Value{K: 4}, api.Value{K: 4}, true)
	mustKey(t, api.Value{K: 4, S: "-0", N: nan}, api.Value{K: 4, S: "-0"}, true)
	for _, k := range []int{api.Table, api.Func, api.Co, api.Lib} {
		mustKey(t, api.Value{K: k, O: -7, N: nan, S: "x"}, api.Value{K: k, O: -7}, true)
		mustKey(t, api.Value{K: k}, api.Value{K: k}, true)
	}
	for _, k := range append(noKinds(), api.Nil) {
		mustKey(t, api.Value{K: k}, api.Value{}, false)
		mustKey(t, api.Value{K: k, N: num(1), S: "x", O: 1}, api.Value{}, false)
	}
	for _, n := range nans() {
		mustKey(t, api.Value{K: api.Number, N: n, S: "x", O: 1}, api.Value{}, false)
	}
	for _, v := range samples() {
		want, ok := keyByWords(v)
		mustKey(t, v, want, ok)
	}
}

// P8.1: nothing but Nil (and kinds that are none) and False is not true: not nought, not a NaN, not the empty text.
func TestTruth(t *testing.T) {
	for _, v := range samples() {
		if got, want := value.Truth(v), kindOf(v) >= 2; got != want {
			t.Errorf("Truth(%s) = %t, want %t", told(v), got, want)
		}
	}
}

// P8.2: the names of all kinds, whatever else a value holds.
func TestName(t *testing.T) {
	names := map[int]string{0: "nil", 1: "boolean", 2: "boolean", 3: "number", 4: "string", 5: "table", 6: "function", 7: "thread", 8: "function"}
	for _, v := range samples() {
		if got, want := value.Name(v), names[kindOf(v)]; got != want {
			t.Errorf("Name(%s) = %q, want %q", told(v), got, want)
		}
	}
}

// P8.2: each kind as it is shown, field by field.
func TestShow(t *testing.T) {
	for _, x := range []struct {
		v    api.Value
		want string
	}{
		{api.Value{}, "nil"}, {api.Value{S: "x", N: 1, O: 1}, "nil"}, {api.Value{K: api.Box, O: 1}, "nil"}, {api.Value{K: -1, S: "x"}, "nil"},
		{api.Value{K: 1}, "false"}, {api.Value{K: 1, S: "true"}, "false"}, {api.Value{K: 2}, "true"}, {api.Value{K: 2, S: "false"}, "true"},
		{api.Value{K: 3}, "0"}, {api.Value{K: 3, N: low}, "-0"}, {api.Value{K: 3, N: num(1.5), S: "x"}, "1.5"}, {api.Value{K: 3, N: num(-1)}, "-1"},
		{api.Value{K: 3, N: inf}, "inf"}, {api.Value{K: 3, N: inf | low}, "-inf"}, {api.Value{K: 3, N: num(1e21)}, "1e+21"}, {api.Value{K: 3, N: num(-1e-7)}, "-0.0000001"},
		{api.Value{K: 4}, ""}, {api.Value{K: 4, S: "x", N: 1, O: 1}, "x"}, {api.Value{K: 4, S: "a\x00\xff\n"}, "a\x00\xff\n"}, {api.Value{K: 4, S: "1.0"}, "1.0"}, {api.Value{K: 4, S: "\"q\""}, "\"q\""},
		{api.Value{K: 5, O: 3, S: "x"}, "table"}, {api.Value{K: 6, O: 3}, "function"}, {api.Value{K: 7, O: 3}, "thread"}, {api.Value{K: 8, O: 3}, "function"}, {api.Value{K: 8}, "function"},
	} {
		if got := value.Show(x.v); got != x.want {
			t.Errorf("Show(%s) = %q, want %q", told(x.v), got, x.want)
		}
	}
	for _, n := range nans() {
		if got := value.Show(api.Value{K: api.Number, N: n, S: "x"}); got != "nan" {
			t.Errorf("Show of the NaN %x = %q", n, got)
		}
	}
}

// P8.2: any value as it is shown, by the layers below and by Name.
func TestShowOfAll(t *testing.T) {
	for _, v := range samples() {
		want := value.Name(v)
		switch kindOf(v) {
		case 1:
			want = "false"
		case 2:
			want = "true"
		case 3:
			want = dec.Print(v.N)
		case 4:
			want = v.S
		}
		if got := value.Show(v); got != want {
			t.Errorf("Show(%s) = %.40q, want %.40q", told(v), got, want)
		}
	}
}

// P8.2: what is made has its kind and its one field. (A NaN's bits tell nothing more: it is held against another one as Normal.)
func TestMade(t *testing.T) {
	for _, n := range numbers() {
		if got, want := value.Num(n), (api.Value{K: 3, N: n}); got != want {
			t.Errorf("Num(%x) = %s", n, told(got))
		}
	}
	for _, n := range nans() {
		got := value.Num(n)
		if got.K != 3 || !isNaN(got.N) || got.S != "" || got.O != 0 {
			t.Errorf("Num(%x) = %s", n, told(got))
		}
		mustNormal(t, got, api.Value{K: 3, N: nan})
	}
	for _, s := range texts() {
		if got, want := value.Text(s), (api.Value{K: 4, S: s}); got != want {
			t.Errorf("Text(%.20q) = %s", s, told(got))
		}
	}
	if got, want := value.Bool(true), (api.Value{K: 2}); got != want {
		t.Errorf("Bool(true) = %s", told(got))
	}
	if got, want := value.Bool(false), (api.Value{K: 1}); got != want {
		t.Errorf("Bool(false) = %s", told(got))
	}
}

// P8.2: the number of a Number, whatever stands beside it, and none of kinds that have none, whatever they hold.
func TestToNumOfKinds(t *testing.T) {
	for _, n := range numbers() {
		mustToNum(t, api.Value{K: api.Number, N: n}, n, true)
		mustToNum(t, api.Value{K: api.Number, N: n, S: "77", O: 3}, n, true)
	}
	for _, n := range nans() {
		if got, ok := value.ToNum(api.Value{K: api.Number, N: n, S: "77"}); !isNaN(got) || !ok {
			t.Errorf("ToNum of the NaN %x = %x, %t", n, got, ok)
		}
	}
	for _, k := range append(kinds(), noKinds()...) {
		if k != api.Number && k != api.Text {
			mustToNum(t, api.Value{K: k, N: num(5), S: "5", O: 5}, 0, false)
		}
	}
}

// P8.2: texts that are numerals, with or without a - ahead, whatever stands beside them.
func TestToNumOfNumerals(t *testing.T) {
	for s, want := range map[string]api.Num{
		"0": 0, "-0": low, "1": num(1), "-1": num(-1), "-1.5": num(-1.5), "007": num(7), "-007": num(-7), "0.1": num(0.1), "-0.1": num(-0.1),
		"1e2": num(100), "1E2": num(100), "-1e+2": num(-100), "-1.25E-2": num(-0.0125), "0e5": 0, "-0e5": low, "0.0": 0, "-0.0": low,
		"1e400": inf, "-1e400": inf | low, "1e-400": 0, "-1e-400": low, "5e-324": 1, "-5e-324": low | 1,
		"9007199254740993": num(1 << 53), "-9007199254740993": num(-(1 << 53)), "1.7976931348623157e308": most, "-1.7976931348623157e308": most | low,
	} {
		mustRead(t, s, want)
		mustToNum(t, api.Value{K: api.Text, S: s, N: num(77), O: 7}, want, true)
		mustToNum(t, api.Value{K: api.Text, S: s, N: nan}, want, true)
	}
}

// P8.2: texts that are nearly numerals.
func TestToNumOfOtherTexts(t *testing.T) {
	for _, s := range []string{
		"", "-", "--", "--1", "---1", "-+1", "+1", "+-1", "+", "- 1", " -1", "-1 ", " 1", "1 ", "1\n", "\t1", "1-", "-1-", "1-1", "-\x001", "1\x00", "\x00",
		".", ".5", "-.5", "5.", "-5.", "1.e5", "-1.e5", "e", "-e", "e5", "-e5", "1e", "-1e", "1e+", "-1e-", "1e--1", "1..5", "1,5", "1_0",
		"0x1", "-0x1", "1f", "inf", "-inf", "Inf", "nan", "-nan", "NaN", "nil", "true", "one", "−1", "–1", "１", "\xff", "1\xff", "(1)", "$1",
	} {
		mustNotRead(t, s)
		mustToNum(t, api.Value{K: api.Text, S: s, N: num(77), O: 7}, 0, false)
	}
}

// P8.2: every short text of the letters that matter.
func TestToNumOfShortTexts(t *testing.T) {
	form := regexp.MustCompile(`^-?[0-9]+(\.[0-9]+)?([eE][+-]?[0-9]+)?$`)
	const letters = "09.e-+ "
	var hold func(s string, more int)
	hold = func(s string, more int) {
		if form.MatchString(s) {
			f, _ := strconv.ParseFloat(s, 64)
			mustRead(t, s, num(f))
		} else {
			mustNotRead(t, s)
		}
		for i := 0; more > 0 && i < len(letters); i++ {
			hold(s+letters[i:i+1], more-1)
		}
	}
	hold("", 6)
}

// P8.2: a numeral has at most 400 bytes; a - ahead of it is none of them.
func TestToNumOfLongTexts(t *testing.T) {
	noughts := strings.Repeat("0", 399)
	mustRead(t, noughts+"7", num(7))
	mustRead(t, "-"+noughts+"7", num(-7))
	mustRead(t, "-"+noughts[1:]+"7", num(-7))
	mustRead(t, strings.Repeat("1", 400), inf)
	mustRead(t, "-"+strings.Repeat("1", 400), inf|low)
	mustRead(t, "-0."+noughts[2:]+"1", low)
	for _, s := range []string{noughts + "07", strings.Repeat("1", 401), "1." + noughts, strings.Repeat("7", 1<<16), "x" + noughts} {
		mustNotRead(t, s)
		mustNotRead(t, "-"+s)
		mustNotRead(t, "--"+s[:100])
	}
	mustNotRead(t, "-"+strings.Repeat("-", 1<<16))
}

// P8.3: Same is what Keys tell, of any two values.
func TestSameByKeys(t *testing.T) {
	l := samples()
	for _, a := range l {
		x, hasA := value.Key(a)
		for _, b := range l {
			y, hasB := value.Key(b)
			want := hasA && hasB && x == y || value.Name(a) == "nil" && value.Name(b) == "nil"
			if got := value.Same(a, b); got != want {
				t.Fatalf("Same(%s, %s) = %t, but by their keys %t", told(a), told(b), got, want)
			}
		}
	}
}

// P8.4: what is shown of a finite number is read as that number, bit for bit.
func TestShownAndRead(t *testing.T) {
	l := numbers()
	r := rand.New(rand.NewSource(2))
	for range 4000 {
		l = append(l, api.Num(r.Uint64()), num(r.NormFloat64()), num(float64(r.Intn(1e6))/1e3), api.Num(r.Uint64())&(low|1<<52-1), num(-float64(r.Int63())))
	}
	for _, n := range l {
		if !finite(n) {
			continue
		}
		shown := value.Show(value.Num(n))
		if got, ok := value.ToNum(value.Text(shown)); got != n || !ok {
			t.Errorf("%x is shown as %q, which is read as %x, %t", n, shown, got, ok)
		}
	}
	for _, n := range append(nans(), inf, inf|low) {
		mustNotRead(t, value.Show(value.Num(n)))
	}
}

// P8.5: Normal and Key of what they tell are just that, and a key is the same as the value.
func TestTwice(t *testing.T) {
	for _, v := range samples() {
		n := value.Normal(v)
		mustNormal(t, n, n)
		k, ok := value.Key(v)
		if !ok {
			continue
		}
		mustKey(t, k, k, true)
		mustKey(t, n, k, true)
		mustNormal(t, k, k)
		mustSame(t, k, v, true)
		mustSame(t, v, k, true)
		mustSame(t, n, v, true)
	}
}

// few are values of few numbers, texts and objects, many of which are the same.
func few() []api.Value {
	var l []api.Value
	for _, k := range append(kinds(), -1, api.Box, 259) {
		for _, n := range []api.Num{0, low, num(1), nan, nan + 1} {
			for _, s := range []string{"", "x"} {
				for o := range 2 {
					l = append(l, api.Value{K: k, N: n, S: s, O: o})
				}
			}
		}
	}
	return l
}

// P8.6: what is the same as a second, which is the same as a third, is the same as that; and it goes back.
func TestSameGoesOn(t *testing.T) {
	l := few()
	for _, a := range l {
		for _, b := range l {
			if !value.Same(a, b) {
				continue
			}
			mustSame(t, b, a, true)
			for _, c := range l {
				if value.Same(b, c) && !value.Same(a, c) {
					t.Fatalf("%s, %s and %s: the same, but not the first and the last", told(a), told(b), told(c))
				}
			}
		}
	}
}

// P8.1, P8.2: what is the same is named and shown alike (but for a nought's sign), holds alike, and is the same number.
func TestSameIsAlike(t *testing.T) {
	l := few()
	for _, a := range l {
		for _, b := range l {
			if !value.Same(a, b) {
				continue
			}
			x, isX := value.ToNum(a)
			y, isY := value.ToNum(b)
			shown := strings.TrimPrefix(value.Show(a), "-") == strings.TrimPrefix(value.Show(b), "-")
			if !shown || value.Name(a) != value.Name(b) || value.Truth(a) != value.Truth(b) || isX != isY || !flo.Equal(x, y) {
				t.Errorf("%s and %s are the same, but not alike", told(a), told(b))
			}
		}
	}
}

// The chapter's examples.
func TestExamples(t *testing.T) {
	mustKey(t, value.Num(low), value.Num(0), true)
	mustSame(t, value.Num(nan), value.Num(nan), false)
	mustToNum(t, value.Text("-1.5"), num(-1.5), true)
}

// answers are all that is told of two values.
type answers struct {
	normal, key    api.Value
	hasKey, truth  bool
	same, back     bool
	name, show     string
	num            api.Num
	isNum          bool
	text, ofNumber api.Value
}

func ask(a, b api.Value) answers {
	var w answers
	w.normal = value.Normal(a)
	w.key, w.hasKey = value.Key(a)
	w.truth, w.name, w.show = value.Truth(a), value.Name(a), value.Show(a)
	w.same, w.back = value.Same(a, b), value.Same(b, a)
	w.num, w.isNum = value.ToNum(a)
	w.text, w.ofNumber = value.Text(a.S), value.Num(a.N)
	return w
}

// anyValue is a value of any kind, or of none, with anything in all its fields.
func anyValue(r *rand.Rand) api.Value {
	v := api.Value{K: r.Intn(14) - 2, N: api.Num(r.Uint64()), O: int(r.Uint64())}
	if r.Intn(4) == 0 {
		v.K = int(r.Uint64())
	}
	if r.Intn(3) == 0 {
		v.N |= inf
	}
	b := make([]byte, r.Intn(30)>>r.Intn(5))
	for i := range b {
		b[i] = "-0123456789.eE+ \x00\xff"[r.Intn(18)]
	}
	v.S = string(b)
	return v
}

// P8.1 to P8.6: any arguments at all: no call panics, changes what it is given, or answers otherwise when it is asked again.
func TestAnything(t *testing.T) {
	r := rand.New(rand.NewSource(3))
	l := samples()
	for range 20000 {
		l = append(l, anyValue(r))
	}
	for i, a := range l {
		b := l[(i*7+1)%len(l)]
		c, d := api.Value{K: a.K, N: a.N, S: strings.Clone(a.S), O: a.O}, b
		first := ask(a, b)
		ask(b, a)
		if ask(a, b) != first {
			t.Fatalf("%s and %s: asked again, the answers are others", told(a), told(b))
		}
		if a != c || b != d {
			t.Fatalf("%s or %s was changed", told(c), told(d))
		}
		key, ok := keyByWords(a)
		if first.normal != normalByWords(a) || first.key != key || first.hasKey != ok || first.same != sameByWords(a, b) || first.back != first.same || first.truth != (kindOf(a) >= 2) {
			t.Fatalf("%s and %s: %+v", told(a), told(b), first)
		}
	}
}
