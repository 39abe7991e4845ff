package flo

import (
	"math"
	"math/bits"

	"minstrel/api"
)

func float(a api.Num) float64 { return math.Float64frombits(uint64(a)) }

func isNaN(a api.Num) bool {
	f := float(a)
	return f != f
}

func below(a api.Num) bool { return a&signBit != 0 }

// magnitude is the number nearest to frac times 2^exp, and to a little more with more; more is asked only of a frac whose highest bit is 1.
func magnitude(exp int, frac uint64, more bool) api.Num {
	if frac == 0 {
		return 0
	}
	// As many bits are kept as a Plain number has, but none below the lowest one of Tiny numbers.
	drop := max(bits.Len64(frac)-(fracBits+1), tinyExp-exp)
	if drop <= 0 {
		return pack(exp+drop, frac<<-drop)
	}
	return pack(exp+drop, rounded(frac, drop, more))
}

// rounded is frac without its drop lowest bits (at least one), made one more where that is nearer, or as near and even.
func rounded(frac uint64, drop int, more bool) uint64 {
	if drop > 64 {
		return 0
	}
	kept := frac >> drop
	rest := frac - kept<<drop
	middle := uint64(1) << (drop - 1)
	if rest > middle || rest == middle && (more || kept&1 == 1) {
		return kept + 1
	}
	return kept
}

// pack lays the exponent and what was kept together by adding them, so that the highest bit kept, and one that came by rounding, count into the exponent.
func pack(exp int, kept uint64) api.Num {
	return min(api.Num(exp-tinyExp)<<fracBits+api.Num(kept), infinity)
}
