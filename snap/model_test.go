package snap_test

import (
	"bytes"
	"encoding/binary"
	"hash/crc32"
	"math"
	"math/rand"
	"slices"
	"strings"

	"minstrel/api"
	"minstrel/code"
)

func num(n uint64) api.Cell       { return api.Cell{K: 0, N: n} }
func text(s string) api.Cell      { return api.Cell{K: 1, S: s} }
func many(l ...api.Cell) api.Cell { return api.Cell{K: 2, L: l} }
func textOf(n int) api.Cell       { return text(strings.Repeat("x", n)) }

// nums is the list of some numbers, those below 0 as they lie in 64 bits.
func nums(l ...int) api.Cell {
	c := many()
	for _, n := range l {
		c.L = append(c.L, num(uint64(int64(n))))
	}
	return c
}

// nested is a cell in so many lists.
func nested(c api.Cell, lists int) api.Cell {
	for range lists {
		c = many(c)
	}
	return c
}

// noKinds are kinds that are none, of cells as of entries, those among them whose lowest byte is a kind.
var noKinds = []int{-1, -2, -3, 3, 4, 7, 127, 128, 255, 256, 257, 258, -256, -255, -254, 1 << 31, 1<<31 - 1, -1 << 31, 1 << 32, 1<<32 + 1, 1<<32 + 2, math.MaxInt, math.MinInt, math.MinInt + 1, math.MinInt + 2}

// membersByWords: l is what one gets by naming the numbers from 1 to 64 that are in it, one behind the other, and one is.
func membersByWords(l []int) bool {
	var in []int
	for n := 1; n <= 64; n++ {
		if slices.Contains(l, n) {
			in = append(in, n)
		}
	}
	return len(in) > 0 && slices.Equal(l, in)
}

// bytesOf are a cell's bytes by the words of P7.1, however many.
func bytesOf(c api.Cell) []byte {
	switch c.K {
	case 0:
		return binary.BigEndian.AppendUint64([]byte{0}, c.N)
	case 1:
		return append(binary.BigEndian.AppendUint32([]byte{1}, uint32(len(c.S))), c.S...)
	}
	b := binary.BigEndian.AppendUint32([]byte{2}, uint32(len(c.L)))
	for _, part := range c.L {
		b = append(b, bytesOf(part)...)
	}
	return b
}

// frameOf is a frame by the words of P6.2, however long; the sum is the library's.
func frameOf(b []byte) []byte {
	all := binary.BigEndian.AppendUint32(nil, uint32(len(b)))
	all = binary.BigEndian.AppendUint32(all, crc32.ChecksumIEEE(slices.Concat(all, b)))
	return append(all, b...)
}

// snapCell is the list of P19.1.
func snapCell(s api.Snap) api.Cell {
	return many(num(s.Index), num(s.Term), nums(s.Members...), s.Sess, s.State)
}

// saveByWords is Save by the words of P19.1.
func saveByWords(s api.Snap) ([]byte, api.Errno) {
	if !membersByWords(s.Members) {
		return nil, api.ErrArg
	}
	if s.Index > 1<<62 {
		return nil, api.ErrLong
	}
	if _, e := code.Encode(snapCell(s)); e != api.OK {
		return nil, e
	}
	return frameOf(bytesOf(snapCell(s))), api.OK
}

// part is a cell's part, the zero cell where there is none.
func part(c api.Cell, i int) api.Cell {
	if c.K != 2 || i >= len(c.L) {
		return api.Cell{}
	}
	return c.L[i]
}

// guessMembers are the members of which a cell is the list, if it is that of any.
func guessMembers(c api.Cell) []int {
	var l []int
	for i := range c.L {
		l = append(l, int(part(c, i).N))
	}
	return l
}

// loadByWords is Load by the words of P19.1: of all snapshots at most one can have told b, and that is asked.
func loadByWords(b []byte) (api.Snap, api.Errno) {
	if len(b) < 8 {
		return api.Snap{}, api.ErrForm
	}
	c, _ := code.Decode(b[8:])
	s := api.Snap{Index: part(c, 0).N, Term: part(c, 1).N, Members: guessMembers(part(c, 2)), Sess: part(c, 3), State: part(c, 4)}
	told, e := saveByWords(s)
	if e != api.OK || !bytes.Equal(told, b) {
		return api.Snap{}, api.ErrForm
	}
	return s, api.OK
}

// entryByWords is EntryCell by the words of P19.2.
func entryByWords(e api.Entry) (api.Cell, api.Errno) {
	c := many(num(e.Term), num(uint64(int64(e.Kind))))
	if !slices.Contains([]int{0, 1, 2}, e.Kind) {
		return api.Cell{}, api.ErrArg
	}
	if e.Kind == 1 && len(e.Data) > 65536 {
		return api.Cell{}, api.ErrLong
	}
	if e.Kind == 2 && !membersByWords(e.Members) {
		return api.Cell{}, api.ErrArg
	}
	if e.Kind == 1 {
		c.L = append(c.L, text(e.Data))
	}
	if e.Kind == 2 {
		c.L = append(c.L, nums(e.Members...))
	}
	return c, api.OK
}

// fromByWords is FromEntry by the words of P19.2: of all entries that have nothing but what plays a part at most one can have told c.
func fromByWords(c api.Cell) (api.Entry, api.Errno) {
	kind, third := int(part(c, 1).N), part(c, 2)
	e := api.Entry{Term: part(c, 0).N, Kind: kind}
	if kind == 1 {
		e.Data = third.S
	}
	if kind == 2 {
		e.Members = guessMembers(third)
	}
	told, err := entryByWords(e)
	if err != api.OK || !sameCell(told, c) {
		return api.Entry{}, api.ErrForm
	}
	return e, api.OK
}

// sameCell is whether two cells are the same: what their kind doesn't name plays no part.
func sameCell(a, b api.Cell) bool {
	switch {
	case a.K != b.K:
		return false
	case a.K == 0:
		return a.N == b.N
	case a.K == 1:
		return a.S == b.S
	case a.K == 2:
		return slices.EqualFunc(a.L, b.L, sameCell)
	}
	return true
}

// plain is a cell, in lists of its own, in which nothing is set but what its kind names.
func plain(c api.Cell) api.Cell {
	switch c.K {
	case 0:
		return num(c.N)
	case 1:
		return text(c.S)
	case 2:
		d := many()
		for _, p := range c.L {
			d.L = append(d.L, plain(p))
		}
		return d
	}
	return api.Cell{K: c.K}
}

// alike is whether two cells are alike field by field, nil and empty lists being so.
func alike(a, b api.Cell) bool {
	return a.K == b.K && a.N == b.N && a.S == b.S && slices.EqualFunc(a.L, b.L, alike)
}

// alikeSnaps, alikeEntries: likewise.
func alikeSnaps(a, b api.Snap) bool {
	return a.Index == b.Index && a.Term == b.Term && slices.Equal(a.Members, b.Members) && alike(a.Sess, b.Sess) && alike(a.State, b.State)
}

func alikeEntries(a, b api.Entry) bool {
	return a.Term == b.Term && a.Kind == b.Kind && a.Data == b.Data && slices.Equal(a.Members, b.Members)
}

// maker makes things by chance, of which one in so many is wrong (none, if that is 0).
type maker struct {
	*rand.Rand
	wrong int
}

func (m maker) isWrong() bool { return m.wrong > 0 && m.Intn(m.wrong) == 0 }

func (m maker) number() uint64 { return m.Uint64() >> m.Intn(64) }

// members rise, unless they are wrong.
func (m maker) members() []int {
	var l []int
	for n := 1 + m.Intn(3); n <= 64 && (len(l) == 0 || m.Intn(6) > 0); n += 1 + m.Intn(12) {
		l = append(l, n)
	}
	if m.isWrong() {
		i := m.Intn(len(l))
		switch m.Intn(5) {
		case 0:
			l[i] = []int{0, -1, 65, 1 << 32, 1<<32 + 1, math.MaxInt, math.MinInt}[m.Intn(7)]
		case 1:
			l = slices.Insert(l, i, l[i])
		case 2:
			l[0], l[i] = l[i], l[0]
		case 3:
			l = nil
		case 4:
			l = append(l, 65)
		}
	}
	return l
}

// cell is a cell with at most so many lists in one another.
func (m maker) cell(levels int) api.Cell {
	if m.isWrong() {
		return api.Cell{K: noKinds[m.Intn(len(noKinds))]}
	}
	switch k := m.Intn(4); {
	case k == 0:
		return num(m.number())
	case k == 1 || levels == 0:
		b := make([]byte, m.Intn(6))
		m.Read(b)
		return text(string(b))
	}
	c := many()
	for range m.Intn(4) {
		c.L = append(c.L, m.cell(levels-1))
	}
	return c
}

func (m maker) snap() api.Snap {
	s := api.Snap{Index: m.number() >> 2, Term: m.number(), Members: m.members(), Sess: m.cell(4), State: m.cell(4)}
	if m.isWrong() {
		s.Index = m.number()
	}
	if m.isWrong() {
		s.Sess = nested(s.Sess, 64)
	}
	return s
}

// entry has something in fields that play no part, too.
func (m maker) entry() api.Entry {
	b := make([]byte, m.Intn(9))
	m.Read(b)
	e := api.Entry{Term: m.number(), Kind: m.Intn(3), Data: string(b), Members: m.members()}
	if m.isWrong() {
		e.Kind = noKinds[m.Intn(len(noKinds))]
	}
	return e
}

// odd is c with all other fields set to something.
func odd(c api.Cell) api.Cell {
	d := api.Cell{K: c.K, N: 7, S: "other", L: []api.Cell{num(1), {K: 9}}}
	switch c.K {
	case 0:
		d.N = c.N
	case 1:
		d.S = c.S
	case 2:
		d.L = nil
		for _, p := range c.L {
			d.L = append(d.L, odd(p))
		}
	}
	return d
}

// changes are cells that are almost c, itself changed but not its parts.
func changes(c api.Cell) []api.Cell {
	var all []api.Cell
	add := func(change func(d *api.Cell)) {
		d := plain(c)
		change(&d)
		all = append(all, d)
	}
	others := []api.Cell{num(0), num(1), num(2), num(64), num(65), text(""), text("x"), many(), many(num(0)), nums(1), nums(2, 1), nums(1, 2), many(text("")), many(c)}
	switch c.K {
	case 0:
		for _, n := range []uint64{c.N + 1, c.N - 1, c.N + 1<<8, c.N + 1<<31, c.N + 1<<32, c.N - 1<<32, c.N + 1<<63, -c.N, ^c.N, 3, 63, 66, 1<<62 - 1, 1 << 62, 1<<62 + 1, 1<<64 - 1} {
			add(func(d *api.Cell) { d.N = n })
		}
		add(func(d *api.Cell) { *d = text(string(bytesOf(c)[1:])) })
	case 1:
		for _, s := range []string{"\x00", c.S + "\x00", c.S + c.S} {
			add(func(d *api.Cell) { d.S = s })
		}
	case 2:
		for i := range len(c.L) + 1 {
			for _, more := range others {
				add(func(d *api.Cell) { d.L = slices.Insert(d.L, i, more) })
			}
		}
		for i := range c.L {
			add(func(d *api.Cell) { d.L = slices.Delete(d.L, i, i+1) })
			add(func(d *api.Cell) { d.L = slices.Insert(d.L, i, d.L[i]) })
			add(func(d *api.Cell) { d.L[0], d.L[i] = d.L[i], d.L[0] })
			add(func(d *api.Cell) { *d = d.L[i] })
		}
	}
	return append(all, others...)
}

// everyChange hands on c with each of its parts, and itself, changed in each way.
func everyChange(c api.Cell, hand func(api.Cell)) {
	for _, d := range changes(c) {
		hand(d)
	}
	for i := range c.L {
		everyChange(c.L[i], func(d api.Cell) {
			e := plain(c)
			e.L[i] = d
			hand(e)
		})
	}
}
