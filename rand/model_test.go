package rand_test

import (
	"math"
	"math/big"
	"math/rand"

	"minstrel/api"
)

const most = uint64(math.MaxUint64)

// step is no constant, so that products of it may wrap round.
var step = uint64(0x9e3779b97f4a7c15)

// all is 2^64, how many states there are.
func all() *big.Int { return new(big.Int).Lsh(big.NewInt(1), 64) }

func bigOf(n uint64) *big.Int { return new(big.Int).SetUint64(n) }

func hexa(s string) *big.Int {
	n, _ := new(big.Int).SetString(s, 16)
	return n
}

// nextByWords is Next by the words of P16.1, in numbers of any size of which the rest by 2^64 is taken.
func nextByWords(s uint64) (uint64, uint64) {
	state := new(big.Int).Add(bigOf(s), hexa("9e3779b97f4a7c15"))
	state.Mod(state, all())
	x := new(big.Int).Set(state)
	for _, y := range []struct {
		down  int64
		times string
	}{{30, "bf58476d1ce4e5b9"}, {27, "94d049bb133111eb"}, {31, "1"}} {
		part := new(big.Int).Exp(big.NewInt(2), big.NewInt(y.down), nil)
		x.Xor(x, part.Div(x, part))
		x.Mul(x, hexa(y.times))
		x.Mod(x, all())
	}
	return state.Uint64(), x.Uint64()
}

// belowByWords is Below by the words of P16.2; it tells also how many numbers were taken.
func belowByWords(s, n uint64) (state, x uint64, taken int) {
	if n == 0 {
		return s, 0, 0
	}
	rest := new(big.Int).Mod(all(), bigOf(n))
	product := new(big.Int).Sub(all(), rest)
	for {
		s, x = nextByWords(s)
		taken++
		if bigOf(x).Cmp(product) < 0 {
			return s, new(big.Int).Mod(bigOf(x), bigOf(n)).Uint64(), taken
		}
	}
}

// unitByWords is Unit by the words of P16.2: a fraction, made a float by the library.
func unitByWords(s uint64) (uint64, api.Num) {
	s, x := nextByWords(s)
	high := new(big.Int).Rsh(bigOf(x), 64-53)
	f, _ := new(big.Rat).SetFrac(high, new(big.Int).Lsh(big.NewInt(1), 53)).Float64()
	return s, api.Num(math.Float64bits(f))
}

// seedByWords is Seed by the words of P16.3.
func seedByWords(s string) uint64 {
	h := uint64(0)
	for _, b := range []byte(s) {
		_, h = nextByWords(h ^ uint64(b))
	}
	return h
}

// stateAhead is the one state of which Next tells x: all that P16.1 does, undone from its end.
func stateAhead(x uint64) uint64 {
	x = unshift(x, 31)
	x = unshift(x*inverse(0x94d049bb133111eb), 27)
	x = unshift(x*inverse(0xbf58476d1ce4e5b9), 30)
	return x - step
}

// unshift undoes x xor (x down by n): the highest n bits are as they were, and tell those below them.
func unshift(y uint64, n int) uint64 {
	x := y
	for range 64 / n {
		x = y ^ x>>n
	}
	return x
}

// inverse is what the odd number a is multiplied by to be 1.
func inverse(a uint64) uint64 { return new(big.Int).ModInverse(bigOf(a), all()).Uint64() }

// edges are states and numbers at which something may turn about: 0, the greatest, powers of two, the number that Next adds and what is 0 behind it, and what is next to each.
func edges() []uint64 {
	var l []uint64
	for _, n := range []uint64{0, step, -step, step / 2, 2 * step, math.MaxUint32, math.MaxInt64, 0xbf58476d1ce4e5b9, 0x94d049bb133111eb} {
		l = append(l, n-2, n-1, n, n+1, n+2)
	}
	for k := range 64 {
		l = append(l, 1<<k-1, 1<<k, 1<<k+1, -(1 << k), step-1<<k, step+1<<k, -step-1<<k, -step+1<<k)
	}
	return l
}

// chance is n numbers of any size, the same ones each time.
func chance(seed int64, n int) []uint64 {
	r := rand.New(rand.NewSource(seed))
	l := make([]uint64, n)
	for i := range l {
		l[i] = r.Uint64() >> r.Intn(64)
	}
	return l
}
