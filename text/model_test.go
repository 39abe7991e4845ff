package text_test

import (
	"math"
	"math/rand"
	"strings"
)

const (
	least = int64(math.MinInt64)
	most  = int64(math.MaxInt64)
)

// placeByWords is P15.1's place: of an i below 0 the place that is as many ahead of the one behind the last, found by going through all of them.
func placeByWords(n int, i int64) int64 {
	if i >= 0 {
		return i
	}
	back := int64(-1)
	for p := n; p >= 1; p-- {
		if back == i {
			return int64(p)
		}
		back--
	}
	return 0
}

// subByWords is Sub by the words of P15.1, place by place.
func subByWords(s string, i, j int64) string {
	from, to := placeByWords(len(s), i), placeByWords(len(s), j)
	var b []byte
	for k := range len(s) {
		if p := int64(k) + 1; from <= p && p <= to {
			b = append(b, s[k])
		}
	}
	return string(b)
}

// byteByWords is Byte by the words of P15.1, place by place.
func byteByWords(s string, i int64) (int64, bool) {
	at := placeByWords(len(s), i)
	for k := range len(s) {
		if int64(k)+1 == at {
			return int64(s[k]), true
		}
	}
	return 0, false
}

// standsAt tells whether t stands in s at place p, byte by byte.
func standsAt(s, t string, p int) bool {
	if p < 1 || p > len(s)+1 || len(t) > len(s)-(p-1) {
		return false
	}
	for k := range len(t) {
		if s[p-1+k] != t[k] {
			return false
		}
	}
	return true
}

// findByWords is Find by the words of P15.1, place by place.
func findByWords(s, t string, from int64) (int64, bool) {
	from = placeByWords(len(s), from)
	for p := 1; p <= len(s)+1; p++ {
		if int64(p) >= from && standsAt(s, t, p) {
			return int64(p), true
		}
	}
	return 0, false
}

// lessByWords is Less by the words of P15.2, byte by byte.
func lessByWords(a, b string) bool {
	for k := 0; k < len(a) && k < len(b); k++ {
		if a[k] != b[k] {
			return int(a[k]) < int(b[k])
		}
	}
	return len(a) < len(b)
}

// upperByWords is Upper by the words of P15.2, letter by letter.
func upperByWords(s string) string {
	var b []byte
	for k := range len(s) {
		c := s[k]
		if at := strings.IndexByte("abcdefghijklmnopqrstuvwxyz", c); at >= 0 {
			c = "ABCDEFGHIJKLMNOPQRSTUVWXYZ"[at]
		}
		b = append(b, c)
	}
	return string(b)
}

// reverseByWords is Reverse by the words of P15.2, from the last byte on.
func reverseByWords(s string) string {
	var b []byte
	for k := len(s); k > 0; k-- {
		b = append(b, s[k-1])
	}
	return string(b)
}

// short are all texts of at most n of these bytes.
func short(n int, bytes string) []string {
	l := []string{""}
	for from := 0; n > 0; n-- {
		to := len(l)
		for ; from < to; from++ {
			for k := range len(bytes) {
				l = append(l, l[from]+bytes[k:k+1])
			}
		}
	}
	return l
}

// anyBytes is a text of n bytes by chance, few of them different if few says so.
func anyBytes(r *rand.Rand, n int, few bool) string {
	b := make([]byte, n)
	for k := range b {
		b[k] = byte(r.Intn(256))
		if few {
			b[k] = "a\x00\xffZz"[b[k]%5]
		}
	}
	return string(b)
}

// allBytes are the 256 bytes, in order.
func allBytes() string {
	var b []byte
	for c := range 256 {
		b = append(b, byte(c))
	}
	return string(b)
}

// samples are texts of no byte, of one, of some and of thousands, of any bytes; those by chance are always the same ones.
func samples() []string {
	l := short(2, "aZ\x00\x80\xff")
	l = append(l, "hello", "aXbX", "Hello, World", "\xc3\xa4\xc3\xb6", "a\xe4z", "@AZ[`az{", "nil", "-1", " ", "\n\t\r", allBytes(), allBytes()+allBytes())
	r := rand.New(rand.NewSource(15))
	for _, n := range []int{1, 2, 3, 4, 5, 7, 8, 9, 15, 16, 17, 31, 32, 33, 63, 64, 65, 100, 255, 256, 257, 1000, 4095, 4096, 5000} {
		l = append(l, anyBytes(r, n, false), anyBytes(r, n, true), strings.Repeat("a", n))
	}
	return append(l, strings.Repeat("ab", 8192), anyBytes(r, 16384, false), anyBytes(r, 20000, false))
}

// places are those about 0, and about the ends of a text of n bytes from both sides, and the least and the greatest; of a text of some bytes all of them.
func places(n int) []int64 {
	l := []int64{
		least, least + 1, least + int64(n), least + int64(n) + 1, most, most - 1, most - int64(n), -1 << 32, 1 << 32, 1<<32 + 1, -1<<32 - 1, 1<<31 - 1, 1 << 31, -1 << 31, 1<<16 + 1, 257, -257,
	}
	if n <= 10 {
		for i := int64(-n) - 3; i <= int64(n)+3; i++ {
			l = append(l, i)
		}
		return l
	}
	for d := int64(-2); d <= 2; d++ {
		l = append(l, d, int64(n)+d, int64(-n)+d, int64(n/2)+d, int64(-n/2)+d)
	}
	return l
}
