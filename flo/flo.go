// Package flo is layer 1: numbers as 64 bits: see DOC.md and doc/01-flo.md.
package flo

import (
	"math"

	"minstrel/api"
)

const (
	signBit  api.Num = 1 << 63
	infinity api.Num = 0x7ff0000000000000
	oneNaN   api.Num = 0x7ff8000000000000

	fracBits   = 52            // bits of the fraction as it is stored
	hidden     = 1 << fracBits // the bit that every Plain number has and none stores
	expMask    = 0x7ff
	leastPlain = 0x1p-1022
	tinyExp    = -1074 // the power of two of the lowest bit of Tiny numbers
)

// Beyond these exponents, with any fraction at all, Make answers Inf or a nought; held within them, an exponent can be reckoned with and never wraps round.
const (
	greatestExp = 1100
	leastExp    = -1200
)

// Kind is told by comparisons of floats, not by bits: nothing but a NaN differs from itself.
func Kind(a api.Num) int {
	f := float(a)
	switch {
	case f != f:
		return api.NaN
	case f == 0:
		return api.Zero
	case f < -math.MaxFloat64 || f > math.MaxFloat64:
		return api.Inf
	case f > -leastPlain && f < leastPlain:
		return api.Tiny
	}
	return api.Plain
}

// Canon lets all NaNs be one, so that what is reckoned can be compared bit for bit.
func Canon(a api.Num) api.Num {
	if isNaN(a) {
		return oneNaN
	}
	return a
}

// Parts are a number's sign, power and whole number: a finite one is the last times 2 to the second.
func Parts(a api.Num) (bool, int, uint64) {
	neg := below(a)
	frac := uint64(a) & (hidden - 1)
	switch Kind(a) {
	case api.Tiny:
		return neg, tinyExp, frac
	case api.Plain:
		// Tiny numbers have the exponent's bits 0, but the same power as those of the bits 1.
		return neg, int(a>>fracBits&expMask) - 1 + tinyExp, frac | hidden
	}
	return neg, 0, 0
}

// Make is the number nearest to frac, or frac and a half, times 2^exp.
func Make(neg bool, exp int, frac uint64, half bool) api.Num {
	exp = min(max(exp, leastExp), greatestExp)
	if half && frac>>63 == 0 {
		// There is room for the half as a bit; without room it lies far below the lowest bit that is kept.
		exp, frac, half = exp-1, frac<<1|1, false
	}
	if neg {
		return signBit | magnitude(exp, frac, half)
	}
	return magnitude(exp, frac, half)
}

// Neg is a with its sign turned about.
func Neg(a api.Num) api.Num {
	if isNaN(a) {
		return oneNaN
	}
	return a ^ signBit
}

// Abs is a without its sign.
func Abs(a api.Num) api.Num {
	if isNaN(a) {
		return oneNaN
	}
	return a &^ signBit
}

// Less compares as numbers: a NaN is not less than any, nor any less than it.
func Less(a, b api.Num) bool { return float(a) < float(b) }

// Equal compares as numbers: both noughts are equal, a NaN not even to itself.
func Equal(a, b api.Num) bool { return float(a) == float(b) }

// Before is an order of all numbers, for where Less would leave noughts and NaNs without a place.
func Before(a, b api.Num) bool {
	switch {
	case isNaN(a):
		return false
	case isNaN(b):
		return true
	case Equal(a, b):
		// Only noughts are equal and differ.
		return below(a) && !below(b)
	}
	return Less(a, b)
}
