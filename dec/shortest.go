package dec

import (
	"math/bits"
	"slices"
)

const (
	powerFrac = 1 << 52 // of a power of two: the number below it is half as far as the one above
	tinyExp   = -1074   // the least exponent, where there is no such nearer number
)

// room is a number, top by under, and how far off below and above it, in the same parts of under, a numeral may lie that is read as it.
type room struct {
	top, under   parts
	below, above parts
	edges        bool // whether one that lies just so far off is read as it, too
}

// shortest are the fewest digits that are read as frac times 2^exp, of those the nearest, and the power of ten that the first one stands for.
func shortest(exp int, frac uint64) (string, int) {
	r := roomOf(exp, frac)
	place := r.scale(leastPlaceOf(exp, frac))
	digits := r.digits()
	if digits[0] == ten {
		// No later digit can become ten: the one ahead of it, one more, says the same, and was asked first.
		return "1", place + 1
	}
	for i := range digits {
		digits[i] += '0'
	}
	return string(digits), place
}

// roomOf reckons in quarters of the lowest bit, so that half the way to a number that is half as far is whole, too.
func roomOf(exp int, frac uint64) room {
	below := uint64(2)
	if frac == powerFrac && exp > tinyExp {
		below = 1
	}
	exp -= 2
	up, down := max(exp, 0), max(-exp, 0)
	return room{
		top:   partsOf(frac).timesTwos(up + 2),
		under: partsOf(1).timesTwos(down),
		below: partsOf(below).timesTwos(up),
		above: partsOf(2).timesTwos(up),
		edges: frac%2 == 0,
	}
}

// leastPlaceOf is not above the power of ten of the first digit, and hardly below it: 1233/4096 is nearly the logarithm of 2, and one less makes up for what it is off.
func leastPlaceOf(exp int, frac uint64) int {
	return (exp+bits.Len64(frac)-1)*1233>>12 - 1
}

// scale lets the first digit stand ahead of the dot, and answers the power of ten that it stood for.
func (r *room) scale(place int) int {
	r.top = r.top.timesTens(max(-place, 0))
	r.below = r.below.timesTens(max(-place, 0))
	r.above = r.above.timesTens(max(-place, 0))
	r.under = r.under.timesTens(max(place, 0))
	for {
		tenfold := slices.Clone(r.under).timesAnd(ten, 0)
		if r.top.compare(tenfold) < 0 {
			return place
		}
		r.under = tenfold
		place++
	}
}

// digits are told one by one till what they say, or what the last one, one more, would say, is read as the number.
func (r *room) digits() []byte {
	var digits []byte
	for {
		digit := byte(0)
		for r.top.compare(r.under) >= 0 {
			r.top = r.top.minus(r.under)
			digit++
		}
		lack := slices.Clone(r.under).minus(r.top)
		mayStay := r.within(r.top, r.below)
		mayBeMore := func() bool {
			nearer := lack.compare(r.top)
			odd := digit%2 == 1
			return r.within(lack, r.above) && (!mayStay || nearer < 0 || nearer == 0 && odd)
		}
		if mayBeMore() {
			return append(digits, digit+1)
		}
		digits = append(digits, digit)
		if mayStay {
			return digits
		}
		r.top = r.top.timesAnd(ten, 0)
		r.below = r.below.timesAnd(ten, 0)
		r.above = r.above.timesAnd(ten, 0)
	}
}

// within tells whether what lies so far off is still in that room.
func (r *room) within(off, limit parts) bool {
	c := off.compare(limit)
	return c < 0 || c == 0 && r.edges
}
