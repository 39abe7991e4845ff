package dec

import (
	"cmp"
	"math/bits"
)

// parts is a whole number of any size: 32 bits each, the lowest first, without noughts at the top; none at all is 0. What its methods answer lies in the memory of the number they are called on, so that one is not used any more.
type parts []uint32

const (
	ten      = 10
	partBits = 32

	// The greatest powers of ten and of two that a part is multiplied by at once.
	tensAtOnce = 9
	tensPower  = 1e9
	twosAtOnce = 31
	twosPower  = 1 << twosAtOnce
)

// partsOf is n as parts.
func partsOf(n uint64) parts {
	return parts{uint32(n), uint32(n >> partBits)}.trimmed()
}

// timesAnd is n times by, and more.
func (n parts) timesAnd(by, more uint32) parts {
	carry := uint64(more)
	for i, p := range n {
		carry += uint64(p) * uint64(by)
		n[i] = uint32(carry)
		carry >>= partBits
	}
	if carry == 0 {
		return n
	}
	return append(n, uint32(carry))
}

// timesTens is n times 10^count.
func (n parts) timesTens(count int) parts {
	for ; count >= tensAtOnce; count -= tensAtOnce {
		n = n.timesAnd(tensPower, 0)
	}
	for ; count > 0; count-- {
		n = n.timesAnd(ten, 0)
	}
	return n
}

// timesTwos is n times 2^count.
func (n parts) timesTwos(count int) parts {
	for ; count >= twosAtOnce; count -= twosAtOnce {
		n = n.timesAnd(twosPower, 0)
	}
	return n.timesAnd(1<<max(count, 0), 0)
}

// minus is n less m, which is not greater than n.
func (n parts) minus(m parts) parts {
	borrow := uint32(0)
	for i := range n {
		off := uint32(0)
		if i < len(m) {
			off = m[i]
		}
		n[i], borrow = bits.Sub32(n[i], off, borrow)
	}
	return n.trimmed()
}

// trimmed is n without noughts at the top, so that of two numbers the longer one is greater.
func (n parts) trimmed() parts {
	for len(n) > 0 && n[len(n)-1] == 0 {
		n = n[:len(n)-1]
	}
	return n
}

// bitLen is the number of bits of n.
func (n parts) bitLen() int {
	if len(n) == 0 {
		return 0
	}
	return partBits*(len(n)-1) + bits.Len32(n[len(n)-1])
}

// compare is below 0, 0 or above 0, as n is less than, equal to or greater than m.
func (n parts) compare(m parts) int {
	if len(n) != len(m) {
		return cmp.Compare(len(n), len(m))
	}
	for i := len(n) - 1; i >= 0; i-- {
		if n[i] != m[i] {
			return cmp.Compare(n[i], m[i])
		}
	}
	return 0
}
