package frame_test

import (
	"bytes"
	"encoding/binary"
	"hash/crc32"
	"math/rand"
	"slices"
	"testing"

	"minstrel/api"
	"minstrel/frame"
)

// slowSum is P6.1's rule word by word, one bit after the other.
func slowSum(b []byte) uint32 {
	reg := uint32(0xffffffff)
	for _, c := range b {
		for i := range 8 {
			out, bit := reg&1, uint32(c)>>i&1
			reg >>= 1
			if out != bit {
				reg ^= 0xedb88320
			}
		}
	}
	return ^reg
}

// record is a frame laid by hand: any number, its sum with the bytes, and the bytes, however many they are.
func record(count uint32, body []byte) []byte {
	head := binary.BigEndian.AppendUint32(nil, count)
	sum := crc32.ChecksumIEEE(slices.Concat(head, body))
	return slices.Concat(binary.BigEndian.AppendUint32(head, sum), body)
}

// whole is the frame that goes with its bytes.
func whole(body []byte) []byte { return record(uint32(len(body)), body) }

func someBytes(r *rand.Rand, n int) []byte {
	b := make([]byte, n)
	r.Read(b)
	return b
}

// mustFirst holds First against a frame of body at the beginning of b.
func mustFirst(t *testing.T, b, body []byte) {
	t.Helper()
	got, n, e := frame.First(b)
	if !bytes.Equal(got, body) || n != 8+len(body) || e != api.OK {
		t.Errorf("First(%.20x.., of %d bytes) = %.20x.., %d, %d, want %d bytes", b, len(b), got, n, e, len(body))
	}
}

// mustRefuse holds First against an error, beside which nothing is told.
func mustRefuse(t *testing.T, b []byte, want api.Errno) {
	t.Helper()
	if got, n, e := frame.First(b); len(got) != 0 || n != 0 || e != want {
		t.Errorf("First(%.20x.., of %d bytes) = %.20x.., %d, %d, want none, 0, %d", b, len(b), got, n, e, want)
	}
}

// mustScan holds Scan against bodies and how many bytes they have as frames.
func mustScan(t *testing.T, b []byte, bodies [][]byte) {
	t.Helper()
	size := 0
	for _, body := range bodies {
		size += 8 + len(body)
	}
	got, n := frame.Scan(b)
	if !slices.EqualFunc(got, bodies, bytes.Equal) || n != size {
		t.Errorf("Scan(%.20x.., of %d bytes): %d frames, %d bytes, want %d, %d", b, len(b), len(got), n, len(bodies), size)
	}
}

// P6.1: sums that are known, of no bytes too.
func TestSumKnown(t *testing.T) {
	for _, c := range []struct {
		text string
		want uint32
	}{
		{"", 0},
		{"\x00", 0xd202ef8d},
		{"\xff", 0xff000000},
		{"a", 0xe8b7be43},
		{"abc", 0x352441c2},
		{"123456789", 0xcbf43926},
		{"\x00\x00\x00\x00", 0x2144df1c},
		{"\xff\xff\xff\xff", 0xffffffff},
		{"The quick brown fox jumps over the lazy dog", 0x414fa339},
	} {
		if got := frame.Sum([]byte(c.text)); got != c.want {
			t.Errorf("Sum(%q) = %08x, want %08x", c.text, got, c.want)
		}
	}
	if got := frame.Sum(nil); got != 0 {
		t.Errorf("Sum(nil) = %08x, want 0", got)
	}
}

// P6.1: every byte, every pair of bytes, and longer bytes, against the rule bit by bit and the library's sum.
func TestSumRule(t *testing.T) {
	hold := func(b []byte) {
		t.Helper()
		if got := frame.Sum(b); got != slowSum(b) || got != crc32.ChecksumIEEE(b) {
			t.Errorf("Sum(%.20x.., of %d bytes) = %08x, want %08x", b, len(b), got, slowSum(b))
		}
	}
	for i := range 256 {
		hold([]byte{byte(i)})
		for j := range 256 {
			hold([]byte{byte(i), byte(j)})
		}
	}
	r := rand.New(rand.NewSource(61))
	for n := range 300 {
		hold(someBytes(r, n))
	}
	hold(someBytes(r, 100000))
	hold(make([]byte, api.MaxBytes))
	hold(someBytes(r, api.MaxBytes+1))
}

// P6.2: a frame byte for byte, of none too.
func TestFrameBytes(t *testing.T) {
	got, e := frame.Frame([]byte("abc"))
	want := []byte{0, 0, 0, 3, 0, 0, 0, 0, 'a', 'b', 'c'}
	binary.BigEndian.PutUint32(want[4:], slowSum([]byte{0, 0, 0, 3, 'a', 'b', 'c'}))
	if !bytes.Equal(got, want) || e != api.OK {
		t.Errorf("Frame(abc) = %x, %d, want %x", got, e, want)
	}
	none := []byte{0, 0, 0, 0, 0x21, 0x44, 0xdf, 0x1c}
	for _, b := range [][]byte{nil, {}} {
		if got, e := frame.Frame(b); !bytes.Equal(got, none) || e != api.OK {
			t.Errorf("Frame of none = %x, %d, want %x", got, e, none)
		}
	}
	r := rand.New(rand.NewSource(62))
	for _, n := range []int{1, 2, 7, 8, 9, 255, 256, 257, 65535, 65536, 65537, api.MaxBytes - 1, api.MaxBytes} {
		b := someBytes(r, n)
		if got, e := frame.Frame(b); !bytes.Equal(got, whole(b)) || e != api.OK {
			t.Errorf("Frame of %d bytes: %d bytes, %d", n, len(got), e)
		}
	}
}

// P6.2: Frame has a limit, which is itself allowed.
func TestFrameLimit(t *testing.T) {
	if got, e := frame.Frame(make([]byte, api.MaxBytes)); len(got) != api.MaxBytes+8 || e != api.OK {
		t.Errorf("Frame of MaxBytes bytes: %d bytes, %d", len(got), e)
	}
	for _, n := range []int{api.MaxBytes + 1, api.MaxBytes + 8, 1 << 24} {
		if got, e := frame.Frame(make([]byte, n)); len(got) != 0 || e != api.ErrLong {
			t.Errorf("Frame of %d bytes: %d bytes, %d, want none, %d", n, len(got), e, api.ErrLong)
		}
	}
}

// P6.2: fewer than 8 bytes are ErrShort, whatever they say.
func TestFirstFewBytes(t *testing.T) {
	mustRefuse(t, nil, api.ErrShort)
	for _, full := range [][]byte{whole(nil), whole([]byte("abc")), bytes.Repeat([]byte{255}, 8), make([]byte, 8)} {
		for n := range 8 {
			mustRefuse(t, full[:n], api.ErrShort)
			// Neither does what lies in the spare room count.
			mustRefuse(t, slices.Clone(full)[:n:n], api.ErrShort)
		}
	}
}

// P6.2: a number above MaxBytes is ErrLong, with few bytes behind and with enough of them.
func TestFirstLong(t *testing.T) {
	for _, count := range []uint32{api.MaxBytes + 1, api.MaxBytes + 2, 1 << 21, 1 << 24, 1<<31 - 9, 1<<31 - 8, 1<<31 - 1, 1 << 31, 1<<32 - 8, 1<<32 - 1} {
		for _, n := range []int{0, 1, 100} {
			mustRefuse(t, record(count, make([]byte, n)), api.ErrLong)
		}
	}
	mustRefuse(t, whole(make([]byte, api.MaxBytes+1)), api.ErrLong)
	broken := whole(make([]byte, api.MaxBytes+1))
	broken[4] ^= 1
	mustRefuse(t, broken, api.ErrLong)
	mustFirst(t, whole(make([]byte, api.MaxBytes)), make([]byte, api.MaxBytes))
	mustRefuse(t, record(api.MaxBytes, nil), api.ErrShort)
}

// P6.2: a number greater than what is behind is ErrShort, also by one only, and also if the sum goes with what is there.
func TestFirstShort(t *testing.T) {
	r := rand.New(rand.NewSource(63))
	for n := range 70 {
		body := someBytes(r, n)
		for _, more := range []uint32{1, 2, 1000} {
			mustRefuse(t, record(uint32(n)+more, body), api.ErrShort)
		}
		full := whole(append(body, 7))
		mustRefuse(t, full[:len(full)-1], api.ErrShort)
		full[5] ^= 16
		mustRefuse(t, full[:len(full)-1], api.ErrShort)
	}
	mustRefuse(t, record(api.MaxBytes, make([]byte, api.MaxBytes-1)), api.ErrShort)
	for n := range 11 {
		mustRefuse(t, whole([]byte("abc"))[:n], api.ErrShort)
	}
}

// P6.2: another sum is ErrForm: one that is off, one of the bytes alone, one with its bytes the other way round.
func TestFirstForm(t *testing.T) {
	body := []byte("abc")
	for _, sum := range []uint32{0, 1<<32 - 1, frame.Sum(body), binary.BigEndian.Uint32(whole(body)[4:]) + 1} {
		b := whole(body)
		binary.BigEndian.PutUint32(b[4:], sum)
		mustRefuse(t, b, api.ErrForm)
		mustRefuse(t, append(b, 1, 2, 3), api.ErrForm)
	}
	reversed := whole(body)
	slices.Reverse(reversed[4:8])
	mustRefuse(t, reversed, api.ErrForm)
	mustRefuse(t, make([]byte, 8), api.ErrForm)
	// A smaller number has bytes enough, but the sum doesn't go with it.
	smaller := whole(body)
	smaller[3] = 2
	mustRefuse(t, smaller, api.ErrForm)
	last := whole(make([]byte, api.MaxBytes))
	last[len(last)-1] = 128
	mustRefuse(t, last, api.ErrForm)
}

// P6.3: First of Frame, and anything behind, is what was framed.
func TestThereAndBack(t *testing.T) {
	r := rand.New(rand.NewSource(64))
	sizes := []int{0, 1, 2, 255, 256, 65535, 65536, api.MaxBytes - 1, api.MaxBytes}
	for n := range 200 {
		sizes = append(sizes, n)
	}
	for _, n := range sizes {
		body := someBytes(r, n)
		b, e := frame.Frame(body)
		if e != api.OK {
			t.Fatalf("Frame of %d bytes: %d", n, e)
		}
		mustFirst(t, b, body)
		mustFirst(t, append(slices.Clone(b), 0), body)
		mustFirst(t, append(slices.Clone(b), b...), body)
		mustFirst(t, append(slices.Clone(b), bytes.Repeat([]byte{255}, 20)...), body)
		mustFirst(t, append(slices.Clone(b), someBytes(r, r.Intn(40))...), body)
	}
}

// P6.2, P6.3: several frames in a row are told one behind the other, up to the first that is not whole.
func TestScan(t *testing.T) {
	mustScan(t, nil, nil)
	mustScan(t, []byte{}, nil)
	mustScan(t, make([]byte, 8), nil)
	r := rand.New(rand.NewSource(65))
	for range 300 {
		var bodies [][]byte
		var all []byte
		for range r.Intn(6) {
			body := someBytes(r, r.Intn(3)*r.Intn(30))
			bodies = append(bodies, body)
			all = append(all, whole(body)...)
		}
		mustScan(t, all, bodies)
		torn := whole(someBytes(r, r.Intn(30)))
		mustScan(t, slices.Concat(all, torn[:r.Intn(len(torn))]), bodies)
		mustScan(t, slices.Concat(all, someBytes(r, r.Intn(9))), bodies)
		mustScan(t, slices.Concat(all, bytes.Repeat([]byte{255}, 12), all), bodies)
		torn[4+r.Intn(len(torn)-4)] ^= 1 << r.Intn(8)
		mustScan(t, slices.Concat(all, torn, all), bodies)
	}
}

// P6.2: Scan ends where a frame is torn, wherever that is, and tells frames of no bytes and the longest ones.
func TestScanEdges(t *testing.T) {
	bodies := [][]byte{[]byte("abc"), nil, []byte("x"), nil, nil, make([]byte, 20)}
	var all []byte
	ends := []int{0}
	for _, body := range bodies {
		all = append(all, whole(body)...)
		ends = append(ends, len(all))
	}
	for n := range len(all) + 1 {
		told, found := slices.BinarySearch(ends, n)
		if !found {
			told--
		}
		mustScan(t, all[:n], bodies[:told])
	}
	mustScan(t, bytes.Repeat(whole(nil), 1000), make([][]byte, 1000))
	long := make([]byte, api.MaxBytes)
	mustScan(t, slices.Concat(whole(nil), whole(long), whole(long)), [][]byte{nil, long, long})
	mustScan(t, slices.Concat(whole(nil), whole(append(long, 0)), whole(nil)), [][]byte{nil})
}

// turned is a frame with bits turned about; a byte's lowest bit is its first.
func turned(b []byte, bits ...int) []byte {
	b = slices.Clone(b)
	for _, i := range bits {
		b[i/8] ^= 1 << (i % 8)
	}
	return b
}

// P6.4: one or two bits behind the first 4 bytes, of texts of every length up to 64.
func TestToldOneOrTwoBits(t *testing.T) {
	r := rand.New(rand.NewSource(66))
	for n := range 65 {
		b, _ := frame.Frame(someBytes(r, n))
		bits := 8 * len(b)
		for i := 32; i < bits; i++ {
			mustRefuse(t, turned(b, i), api.ErrForm)
		}
		if n > 12 && n != 64 {
			continue
		}
		for i := 32; i < bits; i++ {
			for j := 32; j < i; j++ {
				mustRefuse(t, turned(b, i, j), api.ErrForm)
			}
		}
	}
}

// P6.4: three bits behind the first 4 bytes: all of short texts, and some of texts up to 64 bytes.
func TestToldThreeBits(t *testing.T) {
	r := rand.New(rand.NewSource(67))
	for n := range 5 {
		b, _ := frame.Frame(someBytes(r, n))
		for i := 32; i < 8*len(b); i++ {
			for j := 32; j < i; j++ {
				for k := 32; k < j; k++ {
					mustRefuse(t, turned(b, i, j, k), api.ErrForm)
				}
			}
		}
	}
	for n := range 65 {
		b, _ := frame.Frame(someBytes(r, n))
		for range 2000 {
			p := r.Perm(8*len(b) - 32)
			mustRefuse(t, turned(b, 32+p[0], 32+p[1], 32+p[2]), api.ErrForm)
		}
	}
}

// P6.4: any bits within 32 in a row behind the first 8 bytes, from every bit on, also across bytes.
func TestToldWithin32(t *testing.T) {
	r := rand.New(rand.NewSource(68))
	for n := range 65 {
		b, _ := frame.Frame(someBytes(r, n))
		bits := 8 * len(b)
		for from := 64; from < bits; from++ {
			for _, mask := range []uint32{1<<32 - 1, 0x80000001, 0xedb88320, 0xdb710641, 0x82608edb, 0xaaaaaaaa, r.Uint32() | 1, r.Uint32() | 1, 255, 1} {
				var which []int
				for i := from; i < min(from+32, bits); i++ {
					if mask>>(i-from)&1 == 1 {
						which = append(which, i)
					}
				}
				if len(which) > 0 {
					mustRefuse(t, turned(b, which...), api.ErrForm)
				}
			}
		}
	}
}

// P6.5: of three texts of the same length, of none too, the sums go together as the texts do.
func TestLinear(t *testing.T) {
	r := rand.New(rand.NewSource(69))
	for n := range 400 {
		a, b, c, all := someBytes(r, n), someBytes(r, n), someBytes(r, n), make([]byte, n)
		for i := range all {
			all[i] = a[i] ^ b[i] ^ c[i]
		}
		if got, want := frame.Sum(a)^frame.Sum(b)^frame.Sum(c), frame.Sum(all); got != want {
			t.Errorf("of %x, %x, %x: %08x, want %08x", a, b, c, got, want)
		}
		if got, want := frame.Sum(a)^frame.Sum(a)^frame.Sum(b), frame.Sum(b); got != want {
			t.Errorf("of %x twice, %x: %08x, want %08x", a, b, got, want)
		}
	}
}

// P6.1 to P6.3: no call changes what it is given, nor its spare room.
func TestNothingChanged(t *testing.T) {
	r := rand.New(rand.NewSource(70))
	for range 200 {
		room := slices.Concat(whole(someBytes(r, r.Intn(20))), whole(nil), someBytes(r, 40))
		was := slices.Clone(room)
		for n := range len(room) {
			frame.Sum(room[:n])
			frame.Frame(room[:n])
			frame.First(room[:n])
			frame.Scan(room[:n])
		}
		if !bytes.Equal(room, was) {
			t.Fatalf("%x was changed to %x", was, room)
		}
	}
}

// scribble fills a list and its spare room.
func scribble(b []byte) {
	for i := range b[:cap(b)] {
		b[:cap(b)][i] = 0xa5
	}
}

// P6.2: answers are new memory: what is written into one shows nowhere else.
func TestNewMemory(t *testing.T) {
	body := append(make([]byte, 0, 64), "abcdef"...)
	framed, _ := frame.Frame(body)
	again, _ := frame.Frame(body)
	scribble(framed)
	if string(body) != "abcdef" || !bytes.Equal(again, whole(body)) {
		t.Errorf("a frame shares memory: %q, %x", body, again)
	}
	all := slices.Concat(whole(body), whole(nil), whole(body), whole(nil))
	was := slices.Clone(all)
	one, _, _ := frame.First(all)
	two, _, _ := frame.First(all)
	scribble(one)
	if !bytes.Equal(all, was) || !bytes.Equal(two, body) {
		t.Errorf("what First answers shares memory: %x, %x", all, two)
	}
	want := [][]byte{body, nil, body, nil}
	for i := range want {
		list, _ := frame.Scan(all)
		scribble(list[i])
		for j := range list {
			if j != i && !bytes.Equal(list[j], want[j]) {
				t.Errorf("what Scan answers shares memory: %d with %d", i, j)
			}
		}
		if !bytes.Equal(all, was) {
			t.Fatalf("what Scan answers shares memory with its argument: %d", i)
		}
	}
}

// firstByWords is First by the words of P6.2.
func firstByWords(b []byte) ([]byte, int, api.Errno) {
	if len(b) < 8 {
		return nil, 0, api.ErrShort
	}
	count := int64(binary.BigEndian.Uint32(b))
	switch {
	case count > 1<<20:
		return nil, 0, api.ErrLong
	case count > int64(len(b)-8):
		return nil, 0, api.ErrShort
	case !bytes.Equal(whole(b[8:8+count]), b[:8+count]):
		return nil, 0, api.ErrForm
	}
	return b[8 : 8+count], int(8 + count), api.OK
}

// P6.2: any bytes at all, many of them nearly a frame.
func TestAnything(t *testing.T) {
	r := rand.New(rand.NewSource(71))
	for range 30000 {
		b := whole(someBytes(r, r.Intn(12)))
		b = append(b, someBytes(r, r.Intn(12))...)
		for range r.Intn(3) {
			b[r.Intn(len(b))] = byte(r.Intn(256)) >> r.Intn(8)
		}
		b = b[:r.Intn(len(b)+1)]
		want, size, err := firstByWords(b)
		if err == api.OK {
			mustFirst(t, b, want)
		} else {
			mustRefuse(t, b, err)
		}
		if list, n := frame.Scan(b); err == api.OK && (len(list) == 0 || n < size) || err != api.OK && (len(list) != 0 || n != 0) {
			t.Errorf("Scan(%x): %d frames, %d bytes, where First tells %d, %d", b, len(list), n, size, err)
		}
	}
}
