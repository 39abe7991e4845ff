package code_test

import (
	"bytes"
	"encoding/binary"
	"math"
	"math/rand"
	"reflect"
	"slices"
	"strings"
	"testing"

	"minstrel/api"
	"minstrel/code"
)

// encodeByWords is Encode by the words of P7.1: what is still to be gone through lies on a pile, its first on top.
func encodeByWords(c api.Cell) ([]byte, api.Errno) {
	type part struct {
		c  api.Cell
		in int
	}
	pile := []part{{c, 0}}
	var out []byte
	for len(pile) > 0 {
		p := pile[len(pile)-1]
		pile = pile[:len(pile)-1]
		switch p.c.K {
		case 0:
			out = binary.BigEndian.AppendUint64(append(out, 0), p.c.N)
		case 1:
			out = binary.BigEndian.AppendUint32(append(out, 1), uint32(len(p.c.S)))
			out = append(out, p.c.S...)
		case 2:
			if p.in+1 > 64 {
				return nil, api.ErrLong
			}
			out = binary.BigEndian.AppendUint32(append(out, 2), uint32(len(p.c.L)))
			for i := len(p.c.L) - 1; i >= 0; i-- {
				pile = append(pile, part{p.c.L[i], p.in + 1})
			}
		default:
			return nil, api.ErrArg
		}
		if len(out) > 1<<20 {
			return nil, api.ErrLong
		}
	}
	return out, api.OK
}

// open is a list of which so many cells are still to come.
type open struct {
	cells []api.Cell
	more  int
}

// decodeByWords is Decode by the words of P7.2, with the lists that are open on a pile.
func decodeByWords(b []byte) (api.Cell, api.Errno) {
	if len(b) > 1<<20 {
		return api.Cell{}, api.ErrLong
	}
	var pile []open
	for {
		c, size, e := oneByWords(b, len(pile))
		if e != api.OK {
			return api.Cell{}, e
		}
		b = b[size:]
		if c.K == 2 && c.N > 0 {
			pile = append(pile, open{nil, int(c.N)})
			continue
		}
		c.N *= uint64(1 - c.K/2)
		for len(pile) > 0 {
			top := &pile[len(pile)-1]
			top.cells = append(top.cells, c)
			top.more--
			if top.more > 0 {
				break
			}
			c = api.Cell{K: 2, L: top.cells}
			pile = pile[:len(pile)-1]
		}
		if len(pile) > 0 {
			continue
		}
		if len(b) > 0 {
			return api.Cell{}, api.ErrForm
		}
		return c, api.OK
	}
}

// oneByWords reads a number, a text, or how many cells a list in so many others has (as N).
func oneByWords(b []byte, in int) (api.Cell, int, api.Errno) {
	switch {
	case len(b) == 0:
		return api.Cell{}, 0, api.ErrShort
	case b[0] > 2:
		return api.Cell{}, 0, api.ErrForm
	case b[0] == 2 && in == 64:
		return api.Cell{}, 0, api.ErrLong
	case b[0] == 0 && len(b) < 9, len(b) < 5:
		return api.Cell{}, 0, api.ErrShort
	case b[0] == 0:
		return api.Cell{K: 0, N: binary.BigEndian.Uint64(b[1:])}, 9, api.OK
	}
	count := int64(binary.BigEndian.Uint32(b[1:]))
	if count > int64(len(b)-5) {
		return api.Cell{}, 0, api.ErrShort
	}
	if b[0] == 2 {
		return api.Cell{K: 2, N: uint64(count)}, 5, api.OK
	}
	return api.Cell{K: 1, S: string(b[5 : 5+count])}, int(5 + count), api.OK
}

// told is whether two cells are alike field by field, nil and empty lists being so.
func told(a, b api.Cell) bool {
	return a.K == b.K && a.N == b.N && a.S == b.S && slices.EqualFunc(a.L, b.L, told)
}

// mustEncode holds Encode against bytes.
func mustEncode(t *testing.T, c api.Cell, want []byte) {
	t.Helper()
	if got, e := code.Encode(c); !bytes.Equal(got, want) || e != api.OK {
		t.Errorf("Encode of a cell of kind %d = %.40x.., of %d bytes, %d, want %.40x.., of %d", c.K, got, len(got), e, want, len(want))
	}
}

// mustNotEncode holds Encode against an error, beside which nothing is told.
func mustNotEncode(t *testing.T, c api.Cell, want api.Errno) {
	t.Helper()
	if got, e := code.Encode(c); len(got) != 0 || e != want {
		t.Errorf("Encode of a cell of kind %d: %d bytes, %d, want none, %d", c.K, len(got), e, want)
	}
}

// mustDecode holds Decode against a cell, field by field.
func mustDecode(t *testing.T, b []byte, want api.Cell) {
	t.Helper()
	if got, e := code.Decode(b); !told(got, want) || e != api.OK {
		t.Errorf("Decode(%.40x.., of %d bytes): another cell, or %d", b, len(b), e)
	}
}

// mustNotDecode holds Decode against an error, beside which the cell is zero.
func mustNotDecode(t *testing.T, b []byte, want api.Errno) {
	t.Helper()
	if got, e := code.Decode(b); !reflect.DeepEqual(got, api.Cell{}) || e != want {
		t.Errorf("Decode(%.40x.., of %d bytes): a cell of kind %d, %d, want none, %d", b, len(b), got.K, e, want)
	}
}

// nested is a cell in so many lists.
func nested(c api.Cell, lists int) api.Cell {
	for range lists {
		c = api.Cell{K: api.CellList, L: []api.Cell{c}}
	}
	return c
}

// nestedBytes is how such bytes begin.
func nestedBytes(lists int) []byte { return bytes.Repeat([]byte{2, 0, 0, 0, 1}, lists) }

func list(l ...api.Cell) api.Cell { return api.Cell{K: api.CellList, L: l} }
func text(s string) api.Cell      { return api.Cell{K: api.CellText, S: s} }
func number(n uint64) api.Cell    { return api.Cell{K: api.CellNumber, N: n} }
func textOf(n int) api.Cell       { return text(strings.Repeat("x", n)) }
func cat(parts ...any) []byte {
	var b []byte
	for _, p := range parts {
		switch x := p.(type) {
		case int:
			b = append(b, byte(x))
		case string:
			b = append(b, x...)
		case []byte:
			b = append(b, x...)
		}
	}
	return b
}

// noKinds are kinds that are none, those among them whose lowest byte is a kind.
var noKinds = []int{-1, -2, -3, 3, 4, 7, 127, 128, 255, 256, 257, 258, -256, -255, -254, 1 << 31, 1<<31 - 1, -1 << 31, 1 << 32, 1<<32 + 1, 1<<32 + 2, math.MaxInt, math.MinInt, math.MinInt + 1, math.MinInt + 2}

// samples are cells that differ from one another, with their bytes.
func samples() (cells []api.Cell, forms [][]byte) {
	add := func(c api.Cell, form ...any) {
		cells, forms = append(cells, c), append(forms, cat(form...))
	}
	zeros := make([]byte, 8)
	add(number(0), 0, zeros)
	add(number(1), 0, zeros[1:], 1)
	add(number(255), 0, zeros[1:], 255)
	add(number(256), 0, zeros[2:], 1, 0)
	add(number(1<<32), 0, zeros[5:], 1, zeros[4:])
	add(number(1<<63), 0, 128, zeros[1:])
	add(number(0x0123456789abcdef), 0, 0x01, 0x23, 0x45, 0x67, 0x89, 0xab, 0xcd, 0xef)
	add(number(1<<64-1), 0, bytes.Repeat([]byte{255}, 8))
	add(text(""), 1, 0, 0, 0, 0)
	add(text("a"), 1, 0, 0, 0, 1, "a")
	add(text("b"), 1, 0, 0, 0, 1, "b")
	add(text("ab"), 1, 0, 0, 0, 2, "ab")
	add(text("\x00"), 1, 0, 0, 0, 1, 0)
	add(text("\x00\x01\x02\xff"), 1, 0, 0, 0, 4, 0, 1, 2, 255)
	add(text("\xc3("), 1, 0, 0, 0, 2, 0xc3, "(")
	add(textOf(255), 1, 0, 0, 0, 255, strings.Repeat("x", 255))
	add(textOf(256), 1, 0, 0, 1, 0, strings.Repeat("x", 256))
	add(textOf(0x10203), 1, 0, 1, 2, 3, strings.Repeat("x", 0x10203))
	add(list(), 2, 0, 0, 0, 0)
	add(list(list()), 2, 0, 0, 0, 1, 2, 0, 0, 0, 0)
	add(list(list(), list()), 2, 0, 0, 0, 2, 2, 0, 0, 0, 0, 2, 0, 0, 0, 0)
	add(list(list(list())), 2, 0, 0, 0, 1, 2, 0, 0, 0, 1, 2, 0, 0, 0, 0)
	add(list(number(5)), 2, 0, 0, 0, 1, 0, zeros[1:], 5)
	add(list(text("")), 2, 0, 0, 0, 1, 1, 0, 0, 0, 0)
	add(list(number(5), text("a")), 2, 0, 0, 0, 2, 0, zeros[1:], 5, 1, 0, 0, 0, 1, "a")
	add(list(text("a"), number(5)), 2, 0, 0, 0, 2, 1, 0, 0, 0, 1, "a", 0, zeros[1:], 5)
	add(list(list(number(5)), text("a")), 2, 0, 0, 0, 2, 2, 0, 0, 0, 1, 0, zeros[1:], 5, 1, 0, 0, 0, 1, "a")
	add(list(list(number(5), text("a"))), 2, 0, 0, 0, 1, 2, 0, 0, 0, 2, 0, zeros[1:], 5, 1, 0, 0, 0, 1, "a")
	add(list(slices.Repeat([]api.Cell{text("")}, 0x10203)...), 2, 0, 1, 2, 3, bytes.Repeat([]byte{1, 0, 0, 0, 0}, 0x10203))
	return cells, forms
}

// P7.1, P7.2, P7.3: cells of each kind, and the chapter's example, there and back byte for byte.
func TestSamples(t *testing.T) {
	cells, forms := samples()
	for i, c := range cells {
		mustEncode(t, c, forms[i])
		mustDecode(t, forms[i], c)
	}
	example := []byte("\x02\x00\x00\x00\x02\x00\x00\x00\x00\x00\x00\x00\x00\x05\x01\x00\x00\x00\x01\x61")
	mustEncode(t, code.List(code.Number(5), code.Text("a")), example)
	mustDecode(t, example, code.List(code.Number(5), code.Text("a")))
}

// P7.2: Number, Text and List are cells of their kinds, in which nothing else is set.
func TestMakers(t *testing.T) {
	for _, n := range []uint64{0, 1, 5, 1 << 32, 1 << 63, 1<<64 - 1} {
		if got := code.Number(n); !told(got, number(n)) {
			t.Errorf("Number(%d) = %v", n, got)
		}
	}
	for _, s := range []string{"", "a", "\x00\xff", strings.Repeat("x", api.MaxBytes+1)} {
		if got := code.Text(s); !told(got, text(s)) {
			t.Errorf("Text(%.10q..) is another cell", s)
		}
	}
	for _, l := range [][]api.Cell{nil, {}, {number(5)}, {text("a"), number(5), list()}, {list(list(text("b")), number(1)), list()}, {{K: 7}, {K: -1}}} {
		if got := code.List(l...); !told(got, list(l...)) {
			t.Errorf("List(%v) = %v", l, got)
		}
	}
	if got := code.List(); !told(got, list()) {
		t.Errorf("List() = %v", got)
	}
	want := list(number(1), text("t"), list(number(2)), api.Cell{K: 3})
	odd := code.List(api.Cell{K: 0, N: 1, S: "s", L: []api.Cell{{}}}, api.Cell{K: 1, N: 9, S: "t", L: []api.Cell{{}}},
		api.Cell{K: 2, N: 9, S: "s", L: []api.Cell{{K: 0, N: 2, S: "s"}}}, api.Cell{K: 3, N: 9, S: "s", L: []api.Cell{{}}})
	if !told(odd, want) {
		t.Errorf("List of cells with other fields set = %v, want %v", odd, want)
	}
}

// P7.1: a kind that is none is ErrArg, outermost and within lists, whatever else is set.
func TestEncodeNoKind(t *testing.T) {
	for _, k := range noKinds {
		bad := api.Cell{K: k}
		mustNotEncode(t, bad, api.ErrArg)
		mustNotEncode(t, api.Cell{K: k, N: 5, S: "a", L: []api.Cell{number(1)}}, api.ErrArg)
		mustNotEncode(t, list(bad), api.ErrArg)
		mustNotEncode(t, list(number(1), text("a"), bad), api.ErrArg)
		mustNotEncode(t, list(bad, number(1), text("a")), api.ErrArg)
		mustNotEncode(t, list(list(), list(number(1), list(bad)), text("a")), api.ErrArg)
		mustNotEncode(t, nested(bad, api.MaxDeep), api.ErrArg)
	}
}

// P7.1, P7.2: fields that the kind doesn't name play no part, not even if they hold what can't be written.
func TestOtherFields(t *testing.T) {
	odd := []api.Cell{{K: 9}, nested(number(1), 100), textOf(api.MaxBytes)}
	for _, c := range []struct{ plain, full api.Cell }{
		{number(5), api.Cell{K: 0, N: 5, S: strings.Repeat("x", api.MaxBytes+1), L: odd}},
		{text("a"), api.Cell{K: 1, N: 7, S: "a", L: odd}},
		{text(""), api.Cell{K: 1, N: 7, L: odd}},
		{list(number(5)), api.Cell{K: 2, N: 7, S: strings.Repeat("x", api.MaxBytes+1), L: []api.Cell{{K: 0, N: 5, S: "b", L: odd}}}},
		{list(), api.Cell{K: 2, N: 1 << 40, S: "abc"}},
	} {
		want, _ := encodeByWords(c.plain)
		mustEncode(t, c.full, want)
		if !code.Same(c.plain, c.full) || !code.Same(c.full, c.plain) {
			t.Errorf("Same of a cell of kind %d and one with other fields set: false", c.plain.K)
		}
	}
	if !code.Same(api.Cell{K: 3, N: 1, S: "a", L: odd}, api.Cell{K: 3, N: 2, S: "b"}) {
		t.Error("Same of two of one kind that is none: false")
	}
}

// P7.1, P7.2: a cell in MaxDeep lists is allowed, in one more it is not; a list counts itself.
func TestDeep(t *testing.T) {
	for _, c := range []api.Cell{number(5), text("a"), text("")} {
		form, _ := encodeByWords(c)
		for _, n := range []int{0, 1, 63, 64} {
			mustEncode(t, nested(c, n), cat(nestedBytes(n), form))
			mustDecode(t, cat(nestedBytes(n), form), nested(c, n))
		}
		for _, n := range []int{65, 66, 1000, 1 << 16} {
			mustNotEncode(t, nested(c, n), api.ErrLong)
			mustNotDecode(t, cat(nestedBytes(n), form), api.ErrLong)
		}
	}
	empty := []byte{2, 0, 0, 0, 0}
	mustEncode(t, nested(list(), 63), cat(nestedBytes(63), empty))
	mustDecode(t, cat(nestedBytes(63), empty), nested(list(), 63))
	mustNotEncode(t, nested(list(), 64), api.ErrLong)
	mustNotDecode(t, cat(nestedBytes(64), empty), api.ErrLong)
	// Lists beside one another are not in one another.
	beside := list(nested(number(1), 63), nested(number(2), 63), nested(list(), 62))
	form, e := encodeByWords(beside)
	if e != api.OK {
		t.Fatal(e)
	}
	mustEncode(t, beside, form)
	mustDecode(t, form, beside)
	mustNotEncode(t, list(nested(number(1), 63), nested(number(2), 64)), api.ErrLong)
	mustNotDecode(t, cat(2, 0, 0, 0, 2, 2, 0, 0, 0, 0, nestedBytes(64), 1, 0, 0, 0, 0), api.ErrLong)
}

// exact is a list of one text, some numbers and such, with just so many bytes.
func exact(bytesInAll int, behind ...api.Cell) api.Cell {
	rest, _ := encodeByWords(list(behind...))
	return list(append([]api.Cell{textOf(bytesInAll - len(rest) - 5)}, behind...)...)
}

// P7.1, P7.2: bytes of just MaxBytes are allowed, one more is not, wherever it lies.
func TestMaxBytes(t *testing.T) {
	makers := []func(n int) api.Cell{
		func(n int) api.Cell { return textOf(n - 5) },
		func(n int) api.Cell { return nested(textOf(n-5-5*64), 64) },
		func(n int) api.Cell { return exact(n) },
		func(n int) api.Cell { return exact(n, number(1)) },
		func(n int) api.Cell { return exact(n, text("")) },
		func(n int) api.Cell { return exact(n, text("abcdefghij")) },
		func(n int) api.Cell { return exact(n, list()) },
		func(n int) api.Cell { return exact(n, number(1), list(text("a"), number(2)), list(list())) },
		func(n int) api.Cell { return exact(n, slices.Repeat([]api.Cell{number(3)}, 100000)...) },
	}
	for i, made := range makers {
		for _, n := range []int{api.MaxBytes - 1, api.MaxBytes} {
			c := made(n)
			want, e := encodeByWords(c)
			if len(want) != n || e != api.OK {
				t.Fatalf("%d: %d bytes, %d, want %d", i, len(want), e, n)
			}
			mustEncode(t, c, want)
			mustDecode(t, want, c)
		}
		for _, more := range []int{1, 2, 4, 5, 8, 9, 10, 16} {
			mustNotEncode(t, made(api.MaxBytes+more), api.ErrLong)
		}
	}
	numbers := slices.Repeat([]api.Cell{number(1)}, api.MaxBytes/9)
	for _, n := range []int{len(numbers) - 1, len(numbers), 10 * len(numbers)} {
		l := list(slices.Repeat(numbers, n/len(numbers)+1)[:n]...)
		want, e := encodeByWords(l)
		if e == api.OK {
			mustEncode(t, l, want)
		} else {
			mustNotEncode(t, l, e)
		}
	}
	mustNotEncode(t, textOf(1<<24), api.ErrLong)
	mustNotEncode(t, textOf(1<<26), api.ErrLong)
}

// P7.1: of several errors the one that is met first from the outside in, from left to right.
func TestEncodeFirstError(t *testing.T) {
	bad, deep, long := api.Cell{K: 3}, nested(number(1), 65), textOf(api.MaxBytes)
	for _, c := range []struct {
		cell api.Cell
		want api.Errno
	}{
		{list(bad, deep), api.ErrArg},
		{list(deep, bad), api.ErrLong},
		{list(bad, long), api.ErrArg},
		{list(long, bad), api.ErrLong},
		{list(list(list(bad)), deep), api.ErrArg},
		{list(nested(bad, 63), long), api.ErrArg},
		{nested(bad, 65), api.ErrLong},
		{nested(bad, 64), api.ErrArg},
		{nested(list(bad, list()), 63), api.ErrArg},
		{nested(list(list(), bad), 63), api.ErrLong},
		{list(slices.Repeat([]api.Cell{bad}, api.MaxBytes)...), api.ErrArg},
		{list(append(slices.Repeat([]api.Cell{list()}, (api.MaxBytes-5)/5), bad)...), api.ErrArg},
		{list(append(slices.Repeat([]api.Cell{list()}, (api.MaxBytes-5)/5+1), bad)...), api.ErrLong},
		{list(append(exact(api.MaxBytes).L, bad)...), api.ErrArg},
		{list(append(exact(api.MaxBytes+1).L, bad)...), api.ErrLong},
	} {
		if _, e := encodeByWords(c.cell); e != c.want {
			t.Fatalf("%d, want %d", e, c.want)
		}
		mustNotEncode(t, c.cell, c.want)
	}
}

// P7.2: no bytes at all are ErrShort; more than MaxBytes are ErrLong, whatever they are.
func TestDecodeSizes(t *testing.T) {
	mustNotDecode(t, nil, api.ErrShort)
	mustNotDecode(t, []byte{}, api.ErrShort)
	for _, first := range []byte{0, 1, 2, 3, 255} {
		for _, n := range []int{api.MaxBytes + 1, api.MaxBytes + 9, 1 << 22} {
			b := make([]byte, n)
			b[0] = first
			mustNotDecode(t, b, api.ErrLong)
		}
		b := make([]byte, api.MaxBytes)
		b[0] = first
		mustNotDecode(t, b, api.ErrForm)
	}
	one, _ := encodeByWords(textOf(api.MaxBytes - 4))
	form := cat(1, 0, 15, 255, 252, strings.Repeat("x", api.MaxBytes-4))
	if len(one) != 0 || len(form) != api.MaxBytes+1 {
		t.Fatal(len(one), len(form))
	}
	mustNotDecode(t, form, api.ErrLong)
}

// P7.2: a byte that should be a kind and is none is ErrForm, outermost and within a list.
func TestDecodeNoKind(t *testing.T) {
	for k := 3; k < 256; k++ {
		mustNotDecode(t, cat(k), api.ErrForm)
		mustNotDecode(t, cat(k, 0, 0, 0, 0, 0, 0, 0, 0), api.ErrForm)
		mustNotDecode(t, cat(2, 0, 0, 0, 1, k), api.ErrForm)
		mustNotDecode(t, cat(2, 0, 0, 0, 2, 2, 0, 0, 0, 0, k, 0, 0, 0, 0), api.ErrForm)
		mustNotDecode(t, cat(nestedBytes(64), k), api.ErrForm)
	}
}

// P7.2: a text or a list whose number is more than the bytes that are left is ErrShort, also ahead of what lies in it.
func TestDecodeNumberTooGreat(t *testing.T) {
	for _, k := range []int{1, 2} {
		for _, n := range []uint32{1, 2, 1 << 8, 1 << 16, 1 << 20, 1<<20 + 1, 1 << 24, 1<<31 - 1, 1 << 31, 1<<31 + 1, 1<<32 - 5, 1<<32 - 1} {
			head := binary.BigEndian.AppendUint32([]byte{byte(k)}, n)
			mustNotDecode(t, head, api.ErrShort)
			mustNotDecode(t, cat(2, 0, 0, 0, 1, head), api.ErrShort)
			if n < 1<<20-5 {
				// One byte less than the number says, each a kind that is none.
				mustNotDecode(t, cat(head, bytes.Repeat([]byte{9}, int(n)-1)), api.ErrShort)
			}
		}
	}
	mustNotDecode(t, cat(2, 0, 0, 0, 2, 9), api.ErrShort)
	mustNotDecode(t, cat(2, 0, 0, 0, 2, 9, 9), api.ErrForm)
	mustNotDecode(t, cat(2, 0, 0, 0, 3, 2, 0), api.ErrShort)
	mustNotDecode(t, cat(nestedBytes(63), 2, 0, 0, 0, 5, 2, 0, 0, 0), api.ErrShort)
	// It is enough that the number isn't more: what the cells need is told only as they are read.
	mustNotDecode(t, cat(2, 0, 0, 0, 6, 2, 0, 0, 0, 0, 7), api.ErrForm)
	mustNotDecode(t, cat(2, 0, 0, 0, 5, 2, 0, 0, 0, 0), api.ErrShort)
	mustNotDecode(t, cat(1, 0, 0, 0, 2, "a"), api.ErrShort)
	mustDecode(t, cat(1, 0, 0, 0, 2, "ab"), text("ab"))
}

// P7.2: of several errors the one that is met first from the left.
func TestDecodeFirstError(t *testing.T) {
	for _, c := range []struct {
		b    []byte
		want api.Errno
	}{
		{cat(2, 0, 0, 0, 2, 7, 0), api.ErrForm},
		{cat(2, 0, 0, 0, 2, 0, 0, 7), api.ErrShort},
		{cat(2, 0, 0, 0, 3, 2, 0, 0, 0, 0, 7, 0, 0), api.ErrForm},
		{cat(2, 0, 0, 0, 2, 1, 255, 255, 255, 255, 7), api.ErrShort},
		{cat(2, 0, 0, 0, 2, 7, 1, 255, 255, 255, 255), api.ErrForm},
		{cat(7, 7, 7), api.ErrForm},
		{cat(1, 0, 0), api.ErrShort},
		{cat(nestedBytes(64), 2, 0, 0, 0, 1, 7), api.ErrLong},
		{cat(nestedBytes(64), 2, 255, 255, 255, 255), api.ErrLong},
		// Its kind tells that a list lies too deep, before its number is read.
		{cat(nestedBytes(64), 2), api.ErrLong},
		{cat(nestedBytes(64), 2, 0, 0, 0), api.ErrLong},
		{nestedBytes(64), api.ErrShort},
		{cat(nestedBytes(64), 7), api.ErrForm},
		{cat(2, 0, 0, 0, 2, 7, nestedBytes(65)), api.ErrForm},
		{cat(2, 0, 0, 0, 2, nestedBytes(65), 7), api.ErrLong},
		{cat(2, 0, 0, 0, 0, nestedBytes(65)), api.ErrForm},
		{cat(nestedBytes(64), 1, 0, 0, 0, 0, 0), api.ErrForm},
	} {
		if _, e := decodeByWords(c.b); e != c.want {
			t.Fatalf("%x: %d, want %d", c.b, e, c.want)
		}
		mustNotDecode(t, c.b, c.want)
	}
}

// P7.2: cells are the same as themselves alone: the samples, and some that differ in one thing only.
func TestSame(t *testing.T) {
	cells, _ := samples()
	cells = append(cells, nested(number(1), 100), nested(number(2), 100), nested(number(1), 101), nested(list(), 100),
		list(number(1), number(2)), list(number(2), number(1)), list(number(1), number(2), number(3)), list(number(1), number(2), api.Cell{K: 3}),
		list(text("a"), text("b")), list(text("ab")), list(text("a"), list(text("b"))))
	for _, k := range noKinds {
		cells = append(cells, api.Cell{K: k})
	}
	for i, a := range cells {
		for j, b := range cells {
			if got := code.Same(a, copyOf(b)); got != (i == j) {
				t.Errorf("Same of %d and %d: %v", i, j, got)
			}
		}
	}
	if !code.Same(list(), api.Cell{K: 2, L: []api.Cell{}}) || !code.Same(api.Cell{}, number(0)) {
		t.Error("an empty list is nil, too, and a zero cell is the number 0")
	}
	// Not even where their other fields are alike are two kinds the same.
	for _, k := range []int{0, 1, 2, 3, -1} {
		for _, m := range []int{0, 1, 2, 3, -1} {
			a, b := api.Cell{K: k, N: 1, S: "a", L: []api.Cell{{}}}, api.Cell{K: m, N: 1, S: "a", L: []api.Cell{{}}}
			if code.Same(a, b) != (k == m) {
				t.Errorf("Same of kinds %d and %d: %v", k, m, k != m)
			}
		}
	}
}

// copyOf is a cell with lists of its own.
func copyOf(c api.Cell) api.Cell {
	if c.L != nil {
		c.L = slices.Clone(c.L)
	}
	for i := range c.L {
		c.L[i] = copyOf(c.L[i])
	}
	return c
}

// someCell is a cell by chance: mostly small, and of a kind that is none as seldom as said.
func someCell(r *rand.Rand, deep int, noKind int) api.Cell {
	c := api.Cell{K: r.Intn(3), N: r.Uint64() >> r.Intn(64)}
	if noKind > 0 && r.Intn(noKind) == 0 {
		c.K = noKinds[r.Intn(len(noKinds))]
		c.S = "s"
	}
	if c.K != 0 {
		c.N = 0
	}
	switch {
	case c.K == 1:
		b := make([]byte, r.Intn(5))
		for i := range b {
			b[i] = byte(r.Intn(256)) >> r.Intn(8)
		}
		c.S = string(b)
	case c.K == 2 && deep > 0:
		for range r.Intn(4) {
			c.L = append(c.L, someCell(r, deep-1, noKind))
		}
	}
	return c
}

// P7.1, P7.3: cells by chance, some of them with kinds that are none, and there and back.
func TestEncodeAnything(t *testing.T) {
	r := rand.New(rand.NewSource(71))
	for range 20000 {
		c := nested(someCell(r, 5, r.Intn(2)*20), max(0, r.Intn(200)-135))
		want, e := encodeByWords(c)
		if e != api.OK {
			mustNotEncode(t, c, e)
			continue
		}
		mustEncode(t, c, want)
		mustDecode(t, want, c)
		if got, _ := code.Decode(want); !code.Same(got, c) || !code.Same(c, got) {
			t.Errorf("Decode of Encode is another cell: %x", want)
		}
	}
}

// holdDecode holds Decode against its words, and what it tells against P7.3.
func holdDecode(t *testing.T, b []byte) {
	t.Helper()
	want, e := decodeByWords(b)
	if e != api.OK {
		mustNotDecode(t, b, e)
		return
	}
	mustDecode(t, b, want)
	got, _ := code.Decode(b)
	mustEncode(t, got, b)
}

// P7.2, P7.3: all bytes of a few, and bytes by chance, many of them nearly a cell.
func TestDecodeAnything(t *testing.T) {
	few := []byte{0, 1, 2, 3, 5}
	for n := range 8 {
		b := make([]byte, n)
		for which := range int(math.Pow(float64(len(few)), float64(n))) {
			for i := range b {
				b[i] = few[which%len(few)]
				which /= len(few)
			}
			holdDecode(t, b)
		}
	}
	r := rand.New(rand.NewSource(72))
	for range 100000 {
		b, _ := encodeByWords(someCell(r, 4, 0))
		b = cat(nestedBytes(max(0, r.Intn(200)-135)), b)
		for range r.Intn(4) {
			b[r.Intn(len(b))] = byte(r.Intn(256)) >> r.Intn(8)
		}
		if r.Intn(4) == 0 {
			b = b[:r.Intn(len(b)+1)]
		}
		for range r.Intn(8) - 5 {
			b = append(b, byte(r.Intn(256))>>r.Intn(8))
		}
		holdDecode(t, b)
	}
}

// P7.4: of two cells that aren't the same neither one's bytes begin with the other's.
func TestNoBeginning(t *testing.T) {
	cells, _ := samples()
	r := rand.New(rand.NewSource(73))
	for range 1500 {
		cells = append(cells, someCell(r, 3, 0))
	}
	forms := make([][]byte, len(cells))
	for i, c := range cells {
		forms[i], _ = code.Encode(c)
	}
	for i := range cells {
		for j := range cells {
			if bytes.HasPrefix(forms[i], forms[j]) != told(cells[i], cells[j]) {
				t.Errorf("%.40x.. and %.40x..: one is the beginning of the other, or cells that are alike have two forms", forms[i], forms[j])
			}
		}
	}
}

// P7.5: bytes that end too early are ErrShort at every place; with a byte behind they are ErrForm, or ErrLong if that is too long.
func TestCut(t *testing.T) {
	cells, _ := samples()
	cells = append(cells, nested(number(1), 64), nested(list(), 63), list(nested(text("abc"), 30), number(7), nested(list(), 20)))
	r := rand.New(rand.NewSource(74))
	for range 300 {
		cells = append(cells, someCell(r, 5, 0))
	}
	for _, c := range cells {
		b, _ := code.Encode(c)
		step := 1 + len(b)/1000*7
		for n := 0; n < len(b); n += step {
			mustNotDecode(t, b[:n], api.ErrShort)
			// Neither does what lies in the spare room count.
			mustNotDecode(t, b[:n:n], api.ErrShort)
		}
		mustNotDecode(t, b[:len(b)-1], api.ErrShort)
		for _, behind := range []byte{0, 1, 2, 3, 255} {
			mustNotDecode(t, cat(b, []byte{behind}), api.ErrForm)
		}
		mustNotDecode(t, cat(b, b), api.ErrForm)
	}
	full, _ := code.Encode(textOf(api.MaxBytes - 5))
	mustNotDecode(t, full[:api.MaxBytes-1], api.ErrShort)
	mustNotDecode(t, append(full, 0), api.ErrLong)
	less, _ := code.Encode(textOf(api.MaxBytes - 6))
	mustNotDecode(t, append(less, 0), api.ErrForm)
}

// roomy is a cell whose lists have spare room with something in it, which is handed out to be looked at.
func roomy(c api.Cell, rooms *[][]api.Cell) api.Cell {
	if c.K != api.CellList {
		return c
	}
	room := make([]api.Cell, 0, len(c.L)+3)
	for _, part := range c.L {
		room = append(room, roomy(part, rooms))
	}
	room = append(room, number(77), text("spare"), list(number(78)))
	*rooms = append(*rooms, room)
	return list(room[:len(c.L)]...)
}

// P7.1, P7.2: no call changes what it is given, nor its spare room.
func TestNothingChanged(t *testing.T) {
	r := rand.New(rand.NewSource(75))
	for range 300 {
		var rooms, was [][]api.Cell
		c := roomy(list(someCell(r, 4, 30), someCell(r, 4, 30)), &rooms)
		for _, room := range rooms {
			was = append(was, copyOf(list(room...)).L)
		}
		code.Encode(c)
		code.Same(c, c)
		code.Same(c, list(c.L...))
		code.List(c.L...)
		code.List(c, c)
		for i := range rooms {
			if !told(list(rooms[i]...), list(was[i]...)) {
				t.Fatalf("%v was changed to %v", was[i], rooms[i])
			}
		}
		b, _ := encodeByWords(list(someCell(r, 4, 0)))
		b = append(b, "spare room"...)
		before := slices.Clone(b)
		for n := range len(b) {
			code.Decode(b[:n])
		}
		if !bytes.Equal(b, before) {
			t.Fatalf("%x was changed to %x", before, b)
		}
	}
}

// scribble fills all lists of a cell and their spare room, but for how many cells there are.
func scribble(c api.Cell) {
	for _, part := range c.L {
		scribble(part)
	}
	all := c.L[:cap(c.L)]
	for i := range all {
		all[i] = api.Cell{K: -9, N: 99, S: "scribbled"}
	}
}

// separate tells whether what is written into one list of a cell, spare room too, shows in none of its others.
func separate(c api.Cell) bool {
	var lists [][]api.Cell
	var walk func(c api.Cell)
	walk = func(c api.Cell) {
		lists = append(lists, c.L)
		for _, part := range c.L {
			walk(part)
		}
	}
	walk(c)
	seen := map[*api.Cell]bool{}
	for _, l := range lists {
		all := l[:cap(l)]
		for i := range all {
			if seen[&all[i]] {
				return false
			}
			seen[&all[i]] = true
		}
	}
	return true
}

// P7.2: List and Decode answer lists of their own, however deep, shared with no argument, no other answer, and not with one another.
func TestNewMemory(t *testing.T) {
	inner := list(number(1), list(text("a"), list()), list(number(2)))
	parts := append(make([]api.Cell, 0, 8), inner, inner, number(3))
	was := copyOf(list(parts...))
	one, two := code.List(parts...), code.List(parts...)
	if !told(one, was) || !separate(one) {
		t.Errorf("List: %v, or lists that share memory", one)
	}
	scribble(one)
	if !told(list(parts...), was) || !told(two, was) {
		t.Error("what List answers shares memory")
	}
	scribble(list(parts...))
	if !told(two, was) {
		t.Error("what List answers shares memory with its argument")
	}
	again := code.List(two, two)
	if !separate(again) {
		t.Error("two lists that List answers share memory")
	}
	odd := []api.Cell{number(1)}
	scribble(code.List(api.Cell{K: 0, L: odd}, api.Cell{K: 1, L: odd}, api.Cell{K: 5, L: odd}))
	if !told(odd[0], number(1)) {
		t.Error("List shares a list that plays no part")
	}
	b, _ := encodeByWords(was)
	form := slices.Clone(b)
	three, _ := code.Decode(b)
	four, _ := code.Decode(b)
	if !separate(three) {
		t.Error("two lists that Decode answers share memory")
	}
	scribble(three)
	for i := range b {
		b[i] = 'z'
	}
	if !told(four, was) {
		t.Error("what Decode answers shares memory")
	}
	five, _ := code.Encode(was)
	six, _ := code.Encode(was)
	for i := range five[:cap(five)] {
		five[:cap(five)][i] = 0xa5
	}
	if !bytes.Equal(six, form) {
		t.Error("what Encode answers shares memory")
	}
}

// P7.1, P7.2: every call ends: cells in very many lists, lists that hold the same cells over and over, or themselves.
func TestEnds(t *testing.T) {
	deep, other := nested(number(1), 1<<16), nested(number(2), 1<<16)
	if !code.Same(deep, copyOf(deep)) || code.Same(deep, other) {
		t.Error("Same of cells in 2^16 lists")
	}
	if got := code.List(deep); !told(got, list(deep)) {
		t.Error("List of a cell in 2^16 lists")
	}
	mustNotEncode(t, deep, api.ErrLong)
	twice := number(1)
	for range api.MaxDeep {
		twice = list(twice, twice)
	}
	mustNotEncode(t, twice, api.ErrLong)
	itself := make([]api.Cell, 3)
	itself[1] = list(itself...)
	mustNotEncode(t, list(itself...), api.ErrLong)
	wide := make([]byte, 0, api.MaxBytes)
	for range 63 {
		wide = append(wide, 2, 0, 15, 0, 0)
	}
	mustNotDecode(t, wide[:api.MaxBytes], api.ErrShort)
	mustNotDecode(t, append(wide, bytes.Repeat([]byte{1, 0, 0, 0, 0}, 200000)...), api.ErrShort)
}
