package dec

import (
	"strings"

	"minstrel/api"
	"minstrel/flo"
)

// A numeral of at most MaxDigits digits is Inf or 0 beyond these powers of ten, unless it is 0 anyway; held within them, its parts stay few.
const (
	greatestTens = api.MaxDigits
	leastTens    = -2 * api.MaxDigits
)

// beyondTens is an exponent far outside of them, wherever the dot stands; one with more digits is held to it.
const beyondTens = 100 * api.MaxDigits

// quotientBits is more than a number has, so that a rest behind them matters only by being there.
const quotientBits = 64

// numeral is what a text says: digits, as a whole number, times 10^tens.
type numeral struct {
	digits string
	tens   int
}

// read tells too whether s is a numeral.
func read(s string) (numeral, bool) {
	digits, s := cutDigits(s)
	if digits == "" {
		return numeral{}, false
	}
	tens := 0
	if strings.HasPrefix(s, ".") {
		var behind string
		behind, s = cutDigits(s[1:])
		if behind == "" {
			return numeral{}, false
		}
		digits += behind
		tens = -len(behind)
	}
	if s == "" {
		return numeral{digits, tens}, true
	}
	exp, ok := readExp(s)
	if !ok {
		return numeral{}, false
	}
	return numeral{digits, tens + exp}, true
}

// readExp reads an e and all that is behind it.
func readExp(s string) (int, bool) {
	if s[0] != 'e' && s[0] != 'E' {
		return 0, false
	}
	s = s[1:]
	below := strings.HasPrefix(s, "-")
	if below || strings.HasPrefix(s, "+") {
		s = s[1:]
	}
	digits, rest := cutDigits(s)
	if digits == "" || rest != "" {
		return 0, false
	}
	exp := 0
	for i := range len(digits) {
		exp = min(ten*exp+int(digits[i]-'0'), beyondTens)
	}
	if below {
		return -exp, true
	}
	return exp, true
}

// cutDigits cuts s behind the digits that it begins with.
func cutDigits(s string) (string, string) {
	i := 0
	for i < len(s) && '0' <= s[i] && s[i] <= '9' {
		i++
	}
	return s[:i], s[i:]
}

// nearest is the number nearest to what n says.
func nearest(n numeral) api.Num {
	top, under := parts{}, partsOf(1)
	for i := range len(n.digits) {
		top = top.timesAnd(ten, uint32(n.digits[i]-'0'))
	}
	if len(top) == 0 {
		return 0
	}
	tens := min(max(n.tens, leastTens), greatestTens)
	return quotient(top.timesTens(max(tens, 0)), under.timesTens(max(-tens, 0)))
}

// quotient is the number nearest to top by under, of which none is 0. It is rounded once, by flo.Make: a rest of the division is told as a half, which lies below the lowest bit that can decide.
func quotient(top, under parts) api.Num {
	exp := top.bitLen() - under.bitLen()
	top, under = top.timesTwos(max(-exp, 0)), under.timesTwos(max(exp, 0))
	frac := uint64(0)
	for range quotientBits {
		frac <<= 1
		if top.compare(under) >= 0 {
			top = top.minus(under)
			frac |= 1
		}
		top = top.timesAnd(2, 0)
	}
	return flo.Make(false, exp-quotientBits+1, frac, len(top) > 0)
}
