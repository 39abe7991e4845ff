package snap_test

import (
	"encoding/binary"
	"encoding/hex"
	"hash/crc32"
	"math"
	"math/rand"
	"reflect"
	"slices"
	"testing"

	"minstrel/api"
	"minstrel/snap"
)

// mustLoad holds Load against a snapshot, field by field.
func mustLoad(t *testing.T, b []byte, want api.Snap) {
	t.Helper()
	if got, e := snap.Load(b); !alikeSnaps(got, want) || e != api.OK {
		t.Errorf("Load(%.80x.., of %d bytes) = %.200v, %d", b, len(b), got, e)
	}
}

// mustNotLoad holds Load against ErrForm, beside which the snapshot is zero.
func mustNotLoad(t *testing.T, b []byte, what ...any) {
	t.Helper()
	if got, e := snap.Load(b); !reflect.DeepEqual(got, api.Snap{}) || e != api.ErrForm {
		t.Errorf("%v: Load(%.80x.., of %d bytes) = %d, %d, %v, .., error %d", what, b, len(b), got.Index, got.Term, got.Members, e)
	}
}

// holdLoad holds Load against the words.
func holdLoad(t *testing.T, b []byte) api.Errno {
	t.Helper()
	s, e := loadByWords(b)
	if e != api.OK {
		mustNotLoad(t, b, "by the words")
		return e
	}
	mustLoad(t, b, s)
	return e
}

// saved is what Save tells of the example.
func saved() []byte {
	b, _ := hex.DecodeString(exampleBytes)
	return b
}

// P19.1, P19.3: what Save tells, there and back, with nothing but what plays a part.
func TestLoad(t *testing.T) {
	mustLoad(t, saved(), example())
	for _, s := range []api.Snap{
		{Members: []int{1}},
		{Index: 1 << 62, Term: math.MaxUint64, Members: upTo(1, 64), Sess: nested(many(), 62), State: nested(text("a"), 63)},
		{Index: 1<<62 - 1, Members: []int{64}, Sess: text(""), State: many(many(), many(text("\x00")))},
	} {
		mustLoad(t, mustSave(t, s), s)
	}
	full := example()
	full.Sess, full.State = odd(full.Sess), odd(full.State)
	mustLoad(t, mustSave(t, full), example())
	full.Sess = odd(many(num(1), text("a"), many(num(2))))
	b := mustSave(t, full)
	full.Sess, full.State = plain(full.Sess), plain(full.State)
	mustLoad(t, b, full)
}

// P19.1: frames of other cells: each part of a snapshot's list changed in each way.
func TestLoadAlmost(t *testing.T) {
	counts := map[api.Errno]int{}
	for _, s := range []api.Snap{example(), {Index: 1 << 62, Term: math.MaxUint64, Members: []int{1, 2, 3}, Sess: text("ab"), State: num(3)}, {Members: []int{7}, Sess: many(), State: many(num(1), many())}} {
		everyChange(snapCell(s), func(c api.Cell) {
			counts[holdLoad(t, frameOf(bytesOf(c)))]++
		})
	}
	if counts[api.OK] < 300 || counts[api.ErrForm] < 700 {
		t.Error(counts)
	}
}

// P19.1: a few such frames by name.
func TestLoadNoSnap(t *testing.T) {
	hold := func(c api.Cell) {
		t.Helper()
		mustNotLoad(t, frameOf(bytesOf(c)), c)
	}
	lay := func(d api.Cell, path ...int) api.Cell {
		c := snapCell(example())
		at := &c
		for _, i := range path {
			at = &at.L[i]
		}
		*at = d
		return c
	}
	c := snapCell(example())
	for n := range 5 {
		hold(many(c.L[:n]...))
		hold(many(c.L[n+1:]...))
	}
	hold(many(append(slices.Clone(c.L), num(0))...))
	hold(many(append(slices.Clone(c.L), many())...))
	hold(many(c))
	hold(num(7))
	hold(text("x"))
	hold(text(string(saved())))
	hold(text(string(saved()[8:])))
	for i := range 2 {
		hold(lay(text("\x00\x00\x00\x00\x00\x00\x00\x07"), i))
		hold(lay(text(""), i))
		hold(lay(many(), i))
		hold(lay(nums(7), i))
	}
	for _, n := range []uint64{1<<62 + 1, 1 << 63, 1<<63 + 7, math.MaxUint64} {
		hold(lay(num(n), 0))
	}
	for _, d := range []api.Cell{num(1), text("\x01"), text(""), many(), nums(0), nums(-1), nums(65), nums(1, 1), nums(2, 1), nums(0, 1), nums(1, 65), nums(1<<32 + 1), nums(1, 1<<32+2), nums(1<<8 + 1), num(1 << 63), nums(math.MinInt), nums(math.MinInt + 1), nums(upTo(1, 65)...), many(text("\x01")), many(num(1), text("\x02")), many(num(1), nums(2)), many(nums(1)), nums(slices.Repeat([]int{1}, 1000)...), nums(slices.Repeat([]int{1}, 100000)...)} {
		hold(lay(d, 2))
	}
	// Its parts in another order.
	hold(many(c.L[2], c.L[0], c.L[1], c.L[3], c.L[4]))
	hold(many(c.L[0], c.L[2], c.L[1], c.L[3], c.L[4]))
	hold(many(c.L[3], c.L[1], c.L[2], c.L[0], c.L[4]))
}

// P19.1: frames of what is no cell.
func TestLoadNoCell(t *testing.T) {
	b := saved()[8:]
	for n := range b {
		mustNotLoad(t, frameOf(b[:n]), n)
		mustNotLoad(t, frameOf(b[n+1:]), n)
		for _, k := range []byte{3, 255, b[n] + 1} {
			d := slices.Clone(b)
			d[n] = k
			holdLoad(t, frameOf(d))
		}
	}
	for k := range 256 {
		mustNotLoad(t, frameOf(append(slices.Clone(b), byte(k))), k)
		mustNotLoad(t, frameOf(append([]byte{byte(k)}, b...)), k)
	}
	mustNotLoad(t, frameOf(append(slices.Clone(b), b...)))
	mustNotLoad(t, frameOf(saved()))
	s := example()
	for _, deep := range []api.Cell{nested(num(1), 64), nested(many(), 63), nested(text(""), 200)} {
		s.Sess = deep
		mustNotLoad(t, frameOf(bytesOf(snapCell(s))))
	}
	for _, s := range exact(1<<20 + 1) {
		mustNotLoad(t, frameOf(bytesOf(snapCell(*s))))
	}
}

// P19.1, P19.4: bytes behind what Save tells, or ahead of it.
func TestLoadMore(t *testing.T) {
	b, other := saved(), mustSave(t, api.Snap{Members: []int{1}})
	for k := range 256 {
		mustNotLoad(t, append(slices.Clone(b), byte(k)), k)
		mustNotLoad(t, append([]byte{byte(k)}, b...), k)
	}
	for _, more := range [][]byte{b, other, b[:8], b[:9], frameOf(nil), make([]byte, 8), make([]byte, 1<<20)} {
		mustNotLoad(t, append(slices.Clone(b), more...))
		mustNotLoad(t, append(slices.Clone(more), b...))
	}
	for _, s := range exact(1 << 20) {
		b := mustSave(t, *s)
		mustNotLoad(t, append(b, 0))
		mustNotLoad(t, b[:len(b)-1])
		mustNotLoad(t, b[1:])
	}
}

// P19.4: a part of what Save tells, whether from the front, to the end, or from within.
func TestLoadPart(t *testing.T) {
	m := maker{rand.New(rand.NewSource(194)), 0}
	all := []api.Snap{example(), {Members: []int{1}}}
	for range 20 {
		all = append(all, m.snap())
	}
	for _, s := range all {
		b := mustSave(t, s)
		for from := range b {
			for to := from; to <= len(b); to++ {
				if to-from < len(b) {
					mustNotLoad(t, b[from:to], from, to)
				}
			}
		}
		for n := range b {
			mustNotLoad(t, slices.Delete(slices.Clone(b), n, n+1), n)
			mustNotLoad(t, b[:n:n], n)
		}
	}
}

// P19.1: a snapshot's bytes that lie in another one's state are told by Save, too, and so they are loaded.
func TestLoadWithin(t *testing.T) {
	s := example()
	s.State = text(string(saved()))
	b := mustSave(t, s)
	mustLoad(t, b, s)
	mustLoad(t, b[len(b)-len(saved()):], example())
}

// P19.1, P19.4: with any one bit turned about it is no snapshot; not in its first 4 bytes either, since it has another number of bytes then.
func TestLoadBits(t *testing.T) {
	m := maker{rand.New(rand.NewSource(195)), 0}
	all := []api.Snap{example(), {Members: []int{1}}, {Index: 1 << 62, Term: math.MaxUint64, Members: upTo(1, 64), Sess: text("abc"), State: nested(num(1), 63)}}
	for range 200 {
		all = append(all, m.snap())
	}
	for _, s := range all {
		b := mustSave(t, s)
		for i := range 8 * len(b) {
			b[i/8] ^= 1 << (i % 8)
			mustNotLoad(t, b, i)
			b[i/8] ^= 1 << (i % 8)
		}
		mustLoad(t, b, s)
	}
	for _, s := range exact(1 << 20) {
		b := mustSave(t, *s)
		for _, i := range []int{0, 9, 20, 31, 32, 47, 63, 64, 71, 100, 1 << 20, 1<<22 + 5, 8*len(b) - 1} {
			b[i/8] ^= 1 << (i % 8)
			mustNotLoad(t, b, i)
			b[i/8] ^= 1 << (i % 8)
		}
	}
}

// P19.1: bytes that are no frame.
func TestLoadNoFrame(t *testing.T) {
	b := saved()
	mustNotLoad(t, nil)
	mustNotLoad(t, []byte{})
	mustNotLoad(t, frameOf(nil))
	mustNotLoad(t, b[8:])
	mustNotLoad(t, append(slices.Repeat([]byte{255}, 8), b[8:]...))
	for n := range 100 {
		mustNotLoad(t, make([]byte, n), n)
		mustNotLoad(t, slices.Repeat([]byte{255}, n), n)
	}
	// The sum of other bytes than these, and in another order.
	for _, sum := range []uint32{0, crc32.ChecksumIEEE(b[8:]), ^crc32.ChecksumIEEE(append(b[:4:4], b[8:]...)), crc32.ChecksumIEEE(append(b[8:], b[:4]...))} {
		d := slices.Clone(b)
		binary.BigEndian.PutUint32(d[4:], sum)
		mustNotLoad(t, d, sum)
	}
	slices.Reverse(b[:4])
	mustNotLoad(t, b)
	slices.Reverse(b[:4])
	slices.Reverse(b[4:8])
	mustNotLoad(t, b)
	r := rand.New(rand.NewSource(196))
	for range 20000 {
		d := make([]byte, r.Intn(100))
		r.Read(d)
		holdLoad(t, d)
		if len(d) > 8 {
			binary.BigEndian.PutUint32(d, uint32(len(d)-8))
			holdLoad(t, d)
			holdLoad(t, frameOf(d))
		}
	}
}

// P19.1: frames by chance, many of them nearly those of snapshots.
func TestLoadByChance(t *testing.T) {
	counts := map[api.Errno]int{}
	m := maker{rand.New(rand.NewSource(197)), 0}
	for range 50000 {
		b := bytesOf(snapCell(m.snap()))
		for range m.Intn(3) {
			b[m.Intn(len(b))] = byte(m.Intn(256)) >> m.Intn(8)
		}
		b = frameOf(b)
		for range m.Intn(8) - 6 {
			b[m.Intn(len(b))] = byte(m.Intn(256)) >> m.Intn(8)
		}
		counts[holdLoad(t, b)]++
	}
	if counts[api.OK] < 5000 || counts[api.ErrForm] < 5000 {
		t.Error(counts)
	}
}
