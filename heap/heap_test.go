package heap_test

import (
	"math"
	"math/rand"
	"slices"
	"strconv"
	"strings"
	"testing"

	"minstrel/api"
	"minstrel/heap"
)

const (
	low = api.Num(1) << 63 // the nought below 0, and the sign's bit
	inf = api.Num(0x7ff0000000000000)
	nan = api.Num(0x7ff8000000000000)
)

var none = api.Value{}

func float(f float64) api.Value { return api.Value{K: api.Number, N: api.Num(math.Float64bits(f))} }
func num(n int) api.Value       { return float(float64(n)) }
func text(s string) api.Value   { return api.Value{K: api.Text, S: s} }
func tab(o int) api.Value       { return api.Value{K: api.Table, O: o} }

// normalByWords is value.Normal by the words of P8.1.
func normalByWords(v api.Value) api.Value {
	switch v.K {
	case 1, 2:
		return api.Value{K: v.K}
	case 3:
		if v.N&^low > inf {
			v.N = nan
		}
		return api.Value{K: 3, N: v.N}
	case 4:
		return api.Value{K: 4, S: v.S}
	case 5, 6, 7, 8:
		return api.Value{K: v.K, O: v.O}
	}
	return api.Value{}
}

// keyByWords is value.Key by the words of P8.1.
func keyByWords(v api.Value) (api.Value, bool) {
	v = normalByWords(v)
	if v.K == 3 && v.N == low {
		v.N = 0
	}
	if v.K == 0 || v.K == 3 && v.N == nan {
		return api.Value{}, false
	}
	return v, true
}

// plain is a heap by the chapter's words: each object a list of keys and a list of values, gone through from the first on.
type plain struct {
	limit int
	objs  []api.Object
}

func (p *plain) used() int {
	n := len(p.objs)
	for _, x := range p.objs {
		n += len(x.Keys) + len(x.Slots)
	}
	return n
}

// table is the object, if it is a table that there is.
func (p *plain) table(o int) *api.Object {
	if o < 1 || o > len(p.objs) || p.objs[o-1].K != 5 {
		return nil
	}
	return &p.objs[o-1]
}

// other is the object, if there is one that is no table.
func (p *plain) other(o int) *api.Object {
	if o < 1 || o > len(p.objs) || p.objs[o-1].K == 5 {
		return nil
	}
	return &p.objs[o-1]
}

func (p *plain) Table() (int, api.Errno) {
	if p.used() >= p.limit {
		return 0, 2
	}
	p.objs = append(p.objs, api.Object{K: 5})
	return len(p.objs), 0
}

func (p *plain) Get(o int, k api.Value) api.Value {
	x := p.table(o)
	k, is := keyByWords(k)
	if x == nil || !is {
		return api.Value{}
	}
	for i := range x.Keys {
		if x.Keys[i] == k {
			return x.Vals[i]
		}
	}
	return api.Value{}
}

func (p *plain) Set(o int, k, v api.Value) api.Errno {
	x := p.table(o)
	if x == nil {
		return 5
	}
	k, is := keyByWords(k)
	if !is {
		return 1
	}
	v = normalByWords(v)
	i := slices.Index(x.Keys, k)
	switch {
	case v.K == 0 && i < 0:
	case v.K == 0:
		x.Keys, x.Vals = slices.Delete(x.Keys, i, i+1), slices.Delete(x.Vals, i, i+1)
	case i >= 0:
		x.Vals[i] = v
	case p.used() >= p.limit:
		return 2
	default:
		x.Keys, x.Vals = append(x.Keys, k), append(x.Vals, v)
	}
	return 0
}

func (p *plain) Size(o int) int {
	n := 0
	for p.Get(o, num(n+1)) != none {
		n++
	}
	return n
}

func (p *plain) Next(o int, k api.Value) (api.Value, api.Value, api.Errno) {
	x := p.table(o)
	if x == nil {
		return none, none, 5
	}
	i := 0
	if normalByWords(k) != none {
		k, is := keyByWords(k)
		at := slices.Index(x.Keys, k)
		if !is || at < 0 {
			return none, none, 5
		}
		i = at + 1
	}
	if i == len(x.Keys) {
		return none, none, 0
	}
	return x.Keys[i], x.Vals[i], 0
}

func (p *plain) SetMeta(o int, m api.Value) api.Errno {
	x := p.table(o)
	if x == nil {
		return 5
	}
	m = normalByWords(m)
	if m != none && (m.K != 5 || p.table(m.O) == nil) {
		return 1
	}
	x.Meta = m
	return 0
}

func (p *plain) Look(o int, k api.Value) api.Value { return p.look(o, k, 0) }

func (p *plain) look(o int, k api.Value, times int) api.Value {
	if v := p.Get(o, k); v != none {
		return v
	}
	x := p.table(o)
	if x == nil || x.Meta == none || times == 16 {
		return none
	}
	return p.look(x.Meta.O, k, times+1)
}

func (p *plain) Make(kind, a, b, slots int) (int, api.Errno) {
	if kind != 6 && kind != 7 && kind != 9 || slots < 0 || slots > 255 {
		return 0, 1
	}
	if p.used()+1+slots > p.limit {
		return 0, 2
	}
	p.objs = append(p.objs, api.Object{K: kind, A: a, B: b, Slots: make([]api.Value, slots)})
	return len(p.objs), 0
}

func (p *plain) Slot(o, i int) api.Value {
	x := p.other(o)
	if x == nil || i < 0 || i >= len(x.Slots) {
		return none
	}
	return x.Slots[i]
}

func (p *plain) SetSlot(o, i int, v api.Value) api.Errno {
	x := p.other(o)
	if x == nil || i < 0 || i >= len(x.Slots) {
		return 5
	}
	if v.K != 9 {
		v = normalByWords(v)
	}
	x.Slots[i] = v
	return 0
}

func (p *plain) Mark(o, a int) api.Errno {
	x := p.other(o)
	if x == nil {
		return 5
	}
	x.A = a
	return 0
}

// told is a value short enough to be told, however long its text is.
func told(v api.Value) string {
	s := v.S
	if len(s) > 20 {
		s = s[:20] + ".."
	}
	return "{" + strconv.Itoa(v.K) + " " + strconv.FormatUint(uint64(v.N), 16) + " " + strconv.Quote(s) + " " + strconv.Itoa(v.O) + "}"
}

// alike is whether two objects are alike field by field, nil and empty lists being so.
func alike(a, b api.Object) bool {
	return a.K == b.K && a.A == b.A && a.B == b.B && a.Meta == b.Meta &&
		slices.Equal(a.Keys, b.Keys) && slices.Equal(a.Vals, b.Vals) && slices.Equal(a.Slots, b.Slots)
}

func mustNew(t *testing.T, limit int) *heap.Heap {
	t.Helper()
	h, e := heap.New(limit)
	if h == nil || e != api.OK {
		t.Fatalf("New(%d) = %v, %d", limit, h, e)
	}
	mustUse(t, h, 0, 0)
	return h
}

// mustUse is what is to be seen behind every act, also behind one that was refused.
func mustUse(t *testing.T, h *heap.Heap, objects, cells int) {
	t.Helper()
	if h.Len() != objects || h.Used() != cells {
		t.Errorf("Len, Used = %d, %d, want %d, %d", h.Len(), h.Used(), objects, cells)
	}
}

func mustTable(t *testing.T, h *heap.Heap, want int) {
	t.Helper()
	if o, e := h.Table(); o != want || e != api.OK {
		t.Fatalf("Table() = %d, %d, want %d, 0", o, e, want)
	}
}

func mustMake(t *testing.T, h *heap.Heap, kind, a, b, slots, want int, err api.Errno) {
	t.Helper()
	if o, e := h.Make(kind, a, b, slots); o != want || e != err {
		t.Errorf("Make(%d, %d, %d, %d) = %d, %d, want %d, %d", kind, a, b, slots, o, e, want, err)
	}
}

func mustSet(t *testing.T, h *heap.Heap, o int, k, v api.Value, want api.Errno) {
	t.Helper()
	if e := h.Set(o, k, v); e != want {
		t.Errorf("Set(%d, %s, %s) = %d, want %d", o, told(k), told(v), e, want)
	}
}

func mustGet(t *testing.T, h *heap.Heap, o int, k, want api.Value) {
	t.Helper()
	if v := h.Get(o, k); v != want {
		t.Errorf("Get(%d, %s) = %s, want %s", o, told(k), told(v), told(want))
	}
}

func mustSize(t *testing.T, h *heap.Heap, o, want int) {
	t.Helper()
	if n := h.Size(o); n != want {
		t.Errorf("Size(%d) = %d, want %d", o, n, want)
	}
}

func mustNext(t *testing.T, h *heap.Heap, o int, k, key, val api.Value, err api.Errno) {
	t.Helper()
	if a, b, e := h.Next(o, k); a != key || b != val || e != err {
		t.Errorf("Next(%d, %s) = %s, %s, %d, want %s, %s, %d", o, told(k), told(a), told(b), e, told(key), told(val), err)
	}
}

func mustMeta(t *testing.T, h *heap.Heap, o int, m api.Value, want api.Errno) {
	t.Helper()
	if e := h.SetMeta(o, m); e != want {
		t.Errorf("SetMeta(%d, %s) = %d, want %d", o, told(m), e, want)
	}
}

func mustLook(t *testing.T, h *heap.Heap, o int, k, want api.Value) {
	t.Helper()
	if v := h.Look(o, k); v != want {
		t.Errorf("Look(%d, %s) = %s, want %s", o, told(k), told(v), told(want))
	}
}

func mustSlot(t *testing.T, h *heap.Heap, o, i int, want api.Value) {
	t.Helper()
	if v := h.Slot(o, i); v != want {
		t.Errorf("Slot(%d, %d) = %s, want %s", o, i, told(v), told(want))
	}
}

func mustSetSlot(t *testing.T, h *heap.Heap, o, i int, v api.Value, want api.Errno) {
	t.Helper()
	if e := h.SetSlot(o, i, v); e != want {
		t.Errorf("SetSlot(%d, %d, %s) = %d, want %d", o, i, told(v), e, want)
	}
}

func mustMark(t *testing.T, h *heap.Heap, o, a int, want api.Errno) {
	t.Helper()
	if e := h.Mark(o, a); e != want {
		t.Errorf("Mark(%d, %d) = %d, want %d", o, a, e, want)
	}
}

func mustObject(t *testing.T, h *heap.Heap, o int, want api.Object) {
	t.Helper()
	if x, is := h.Object(o); !is || !alike(x, want) {
		t.Errorf("Object(%d) = %v, %t, want %v, true", o, x, is, want)
	}
}

func mustNoObject(t *testing.T, h *heap.Heap, o int) {
	t.Helper()
	if x, is := h.Object(o); is || !alike(x, api.Object{}) {
		t.Errorf("Object(%d) = %v, %t, want the zero one and false", o, x, is)
	}
}

// mustBeAs holds all that can be asked of a heap against the plain one.
func mustBeAs(t *testing.T, h *heap.Heap, p *plain) {
	t.Helper()
	mustUse(t, h, len(p.objs), p.used())
	for i, x := range p.objs {
		mustObject(t, h, i+1, x)
		mustSize(t, h, i+1, p.Size(i+1))
	}
	for _, o := range noObjects(len(p.objs)) {
		mustNoObject(t, h, o)
	}
}

// noObjects are numbers that no object has, if there are n.
func noObjects(n int) []int {
	return []int{0, -1, -2, n + 1, n + 2, n + 1000, math.MaxInt32, math.MinInt32, math.MaxInt, math.MinInt, math.MinInt + 1}
}

// noKinds are kinds that no value is of, some of which are one in their lower bits; Box among them.
func noKinds() []int {
	return []int{api.Box, -1, 10, 77, 255, 256, 256 + api.Number, 256 + api.Table, 1<<16 + api.Text, math.MinInt, math.MinInt + api.Table, math.MaxInt}
}

// nils are values that are as Nil: fields that play no part, and kinds that are none.
func nils() []api.Value {
	l := []api.Value{{}, {N: num(1).N}, {S: "a", O: 1}}
	for _, k := range noKinds() {
		l = append(l, api.Value{K: k}, api.Value{K: k, N: num(1).N, S: "a", O: 1})
	}
	return l
}

// nans are NaNs of several bit patterns.
func nans() []api.Value {
	var l []api.Value
	for _, n := range []api.Num{nan, nan + 1, inf + 1, 1<<63 - 1, nan | low, inf + 1 | low, ^api.Num(0)} {
		l = append(l, api.Value{K: api.Number, N: n}, api.Value{K: api.Number, N: n, S: "a", O: 1})
	}
	return l
}

// noKey are values that are no key.
func noKey() []api.Value { return append(nils(), nans()...) }

// keys are keys of every kind, in their form, no two the same.
func keys() []api.Value {
	l := []api.Value{{K: api.False}, {K: api.True}}
	for _, f := range []float64{0, 1, 2, 3, 4, 5, -1, -2, 0.5, 1.5, -0.5, 1 << 20, 1<<20 + 1, 1 << 52, 1 << 53, 1 << 62, 1 << 63, -1 << 63, 1 << 64, 1e300, 5e-324, -5e-324, math.MaxFloat64, math.Inf(1), math.Inf(-1)} {
		l = append(l, float(f))
	}
	for _, s := range []string{"", "\x00", "\x00\x00", "a", "b", "ab", "ba", "a\x00", "1", "0", "nil", "12345678", "123456789", "87654321", "\xff", strings.Repeat("x", 1<<14), strings.Repeat("x", 1<<14-1) + "y"} {
		l = append(l, text(s))
	}
	for _, k := range []int{api.Table, api.Func, api.Co, api.Lib} {
		for _, o := range []int{0, 1, 2, 3, -1, 255, 1 << 32, math.MaxInt, math.MinInt} {
			l = append(l, api.Value{K: k, O: o})
		}
	}
	return l
}

// P9.1: limits from 0 to MaxCells, and no others.
func TestNew(t *testing.T) {
	for _, limit := range []int{0, 1, 2, 255, 256, 1<<20 - 1, 1 << 20} {
		h := mustNew(t, limit)
		for _, o := range noObjects(0) {
			mustNoObject(t, h, o)
		}
	}
	for _, limit := range []int{-1, -2, 1<<20 + 1, 1 << 21, 1<<32 + 5, math.MaxInt, math.MinInt} {
		if h, e := heap.New(limit); h != nil || e != api.ErrArg {
			t.Errorf("New(%d) = %v, %d, want nil, 1", limit, h, e)
		}
	}
}

// P9.1: numbers from 1 on, as objects come, whatever their kind; a refused one takes none.
func TestNumbersOfObjects(t *testing.T) {
	h := mustNew(t, 12)
	mustTable(t, h, 1)
	mustMake(t, h, api.Func, 3, 4, 2, 2, api.OK)
	mustMake(t, h, api.Func, 3, 4, 256, 0, api.ErrArg)
	mustMake(t, h, api.Func, 3, 4, 8, 0, api.ErrLong)
	mustMake(t, h, api.Box, 0, 0, 1, 3, api.OK)
	mustTable(t, h, 4)
	mustMake(t, h, api.Co, -5, math.MinInt, 0, 5, api.OK)
	mustUse(t, h, 5, 8)
	mustObject(t, h, 1, api.Object{K: api.Table})
	mustObject(t, h, 2, api.Object{K: api.Func, A: 3, B: 4, Slots: []api.Value{none, none}})
	mustObject(t, h, 3, api.Object{K: api.Box, Slots: []api.Value{none}})
	mustObject(t, h, 4, api.Object{K: api.Table})
	mustObject(t, h, 5, api.Object{K: api.Co, A: -5, B: math.MinInt})
	for _, o := range noObjects(5) {
		mustNoObject(t, h, o)
	}
}

// P9.1: Object tells all of a table: keys in the order in which they came, keys and values Normal, and what stands in.
func TestObjectOfTable(t *testing.T) {
	h := mustNew(t, 20)
	mustTable(t, h, 1)
	mustTable(t, h, 2)
	mustSet(t, h, 1, api.Value{K: api.Text, S: "k", N: 5, O: 6}, api.Value{K: api.True, S: "x"}, api.OK)
	mustSet(t, h, 1, api.Value{K: api.Number, N: low, S: "x"}, api.Value{K: api.Number, N: inf + 5, O: 3}, api.OK)
	mustSet(t, h, 1, api.Value{K: api.Lib, O: 2, N: 9}, api.Value{K: api.Number, N: low}, api.OK)
	mustMeta(t, h, 1, api.Value{K: api.Table, O: 2, S: "x", N: 7}, api.OK)
	want := api.Object{
		K: api.Table, Keys: []api.Value{text("k"), num(0), {K: api.Lib, O: 2}},
		Vals: []api.Value{{K: api.True}, {K: api.Number, N: nan}, {K: api.Number, N: low}}, Meta: tab(2),
	}
	mustObject(t, h, 1, want)
	mustSet(t, h, 1, text("k"), num(1), api.OK)
	want.Vals[0] = num(1)
	mustObject(t, h, 1, want)
	mustMeta(t, h, 1, none, api.OK)
	want.Meta = none
	mustObject(t, h, 1, want)
	mustObject(t, h, 2, api.Object{K: api.Table})
	mustUse(t, h, 2, 5)
}

// scribble writes over a list, its spare room included.
func scribble(l []api.Value) {
	l = l[:cap(l)]
	for i := range l {
		l[i] = text("scribble")
	}
}

// P9.1: what Object tells is new memory: neither the heap's own, nor that of another answer.
func TestObjectIsApart(t *testing.T) {
	h := mustNew(t, 300)
	mustTable(t, h, 1)
	mustMake(t, h, api.Func, 1, 2, 5, 2, api.OK)
	for i := range 20 {
		mustSet(t, h, 1, num(i), num(100+i), api.OK)
	}
	for i := range 5 {
		mustSetSlot(t, h, 2, i, num(i), api.OK)
	}
	for o := 1; o <= 2; o++ {
		first, _ := h.Object(o)
		kept, _ := h.Object(o)
		scribble(first.Keys)
		scribble(first.Slots)
		mustObject(t, h, o, kept)
		other, _ := h.Object(o)
		scribble(other.Vals)
		if !slices.Equal(other.Keys, kept.Keys) {
			t.Errorf("Object(%d): keys and values share memory", o)
		}
		mustObject(t, h, o, kept)
	}
	x, _ := h.Object(2)
	mustSetSlot(t, h, 2, 0, text("later"), api.OK)
	mustMark(t, h, 2, 9, api.OK)
	if x.Slots[0] != num(0) || x.A != 1 {
		t.Error("an answer changed behind it")
	}
	x, _ = h.Object(1)
	mustSet(t, h, 1, num(0), text("later"), api.OK)
	mustSet(t, h, 1, num(1), none, api.OK)
	if len(x.Keys) != 20 || len(x.Vals) != 20 || x.Vals[0] != num(100) || x.Keys[1] != num(1) || x.Vals[1] != num(101) {
		t.Error("an answer changed behind it")
	}
}

// P9.2, P9.6: tables come till limit cells are used.
func TestTableLimit(t *testing.T) {
	for limit := range 5 {
		h := mustNew(t, limit)
		for i := range limit {
			mustTable(t, h, i+1)
			mustUse(t, h, i+1, i+1)
		}
		for range 2 {
			if o, e := h.Table(); o != 0 || e != api.ErrLong {
				t.Errorf("Table() of %d cells = %d, %d, want 0, 2", limit, o, e)
			}
			mustUse(t, h, limit, limit)
		}
	}
}

// P9.2: keys of every kind have each a value of its own, also in one table.
func TestKeysOfAllKinds(t *testing.T) {
	h := mustNew(t, 1000)
	mustTable(t, h, 1)
	all := keys()
	for i, k := range all {
		mustGet(t, h, 1, k, none)
		mustSet(t, h, 1, k, num(i), api.OK)
		mustUse(t, h, 1, 2+i)
	}
	for i, k := range all {
		mustGet(t, h, 1, k, num(i))
		noise := api.Value{K: k.K, N: 3, S: "noise", O: 4}
		switch k.K {
		case api.Number:
			noise.N = k.N
		case api.Text:
			noise.S = k.S
		case api.Table, api.Func, api.Co, api.Lib:
			noise.O = k.O
		}
		mustGet(t, h, 1, noise, num(i))
		mustSet(t, h, 1, noise, num(-i), api.OK)
		mustGet(t, h, 1, k, num(-i))
	}
	mustUse(t, h, 1, 1+len(all))
	for i, k := range all {
		mustSet(t, h, 1, k, none, api.OK)
		mustGet(t, h, 1, k, none)
		mustUse(t, h, 1, len(all)-i)
	}
}

// P9.2: values of every kind are kept in their normal form.
func TestValuesOfAllKinds(t *testing.T) {
	h := mustNew(t, 1000)
	mustTable(t, h, 1)
	for i, v := range append(keys(), nans()...) {
		mustSet(t, h, 1, num(i), v, api.OK)
		mustGet(t, h, 1, num(i), normalByWords(v))
		mustLook(t, h, 1, num(i), normalByWords(v))
		mustUse(t, h, 1, 2+i)
	}
	for _, k := range []int{1, 2, 3, 4, 5, 6, 7, 8} {
		v := api.Value{K: k, N: low, S: "s", O: -3}
		mustSet(t, h, 1, text("v"), v, api.OK)
		mustGet(t, h, 1, text("v"), normalByWords(v))
	}
	mustSet(t, h, 1, text("v"), api.Value{K: api.Number, N: low}, api.OK)
	mustGet(t, h, 1, text("v"), api.Value{K: api.Number, N: low})
}

// P9.2: both noughts are one key, which is told without its sign.
func TestNoughts(t *testing.T) {
	h := mustNew(t, 10)
	mustTable(t, h, 1)
	below, above := api.Value{K: api.Number, N: low}, num(0)
	mustSet(t, h, 1, below, text("a"), api.OK)
	mustGet(t, h, 1, above, text("a"))
	mustGet(t, h, 1, below, text("a"))
	mustSet(t, h, 1, above, text("b"), api.OK)
	mustGet(t, h, 1, below, text("b"))
	mustUse(t, h, 1, 2)
	mustNext(t, h, 1, none, above, text("b"), api.OK)
	mustNext(t, h, 1, below, none, none, api.OK)
	mustObject(t, h, 1, api.Object{K: api.Table, Keys: []api.Value{above}, Vals: []api.Value{text("b")}})
	mustSize(t, h, 1, 0)
	mustSet(t, h, 1, below, none, api.OK)
	mustGet(t, h, 1, above, none)
	mustUse(t, h, 1, 1)
}

// P9.2: keys that are none: ErrArg, and nothing is there, nor has gone; ErrNone comes ahead, whatever the value is.
func TestNoKeys(t *testing.T) {
	h := mustNew(t, 3)
	mustTable(t, h, 1)
	mustSet(t, h, 1, num(1), num(2), api.OK)
	for range 2 {
		for _, k := range noKey() {
			mustSet(t, h, 1, k, num(1), api.ErrArg)
			mustSet(t, h, 1, k, none, api.ErrArg)
			mustGet(t, h, 1, k, none)
			mustLook(t, h, 1, k, none)
			mustUse(t, h, h.Len(), h.Len()+1)
			mustObject(t, h, 1, api.Object{K: api.Table, Keys: []api.Value{num(1)}, Vals: []api.Value{num(2)}})
			mustSet(t, h, 9, k, num(1), api.ErrNone)
		}
		h.Table() // the second time there is no room
	}
}

// P9.2: Set to Nil, and to a kind that is none, which is as Nil: the key goes, and what is not there may go.
func TestKeyGoes(t *testing.T) {
	for _, v := range nils() {
		h := mustNew(t, 4)
		mustTable(t, h, 1)
		mustSet(t, h, 1, text("a"), v, api.OK)
		mustUse(t, h, 1, 1)
		for i := range 3 {
			mustSet(t, h, 1, num(i), num(1), api.OK)
		}
		mustSet(t, h, 1, text("a"), v, api.OK)
		mustUse(t, h, 1, 4)
		mustSet(t, h, 1, num(1), v, api.OK)
		mustUse(t, h, 1, 3)
		mustGet(t, h, 1, num(1), none)
		mustSet(t, h, 1, num(1), v, api.OK)
		mustUse(t, h, 1, 3)
		mustObject(t, h, 1, api.Object{K: api.Table, Keys: []api.Value{num(0), num(2)}, Vals: []api.Value{num(1), num(1)}})
	}
}

// P9.2: a key that goes and comes again comes behind all others; one that is set anew stays where it is.
func TestKeyComesAgain(t *testing.T) {
	h := mustNew(t, 10)
	mustTable(t, h, 1)
	order := func(want ...string) {
		t.Helper()
		x, _ := h.Object(1)
		var got []string
		for _, k := range x.Keys {
			got = append(got, k.S)
		}
		if !slices.Equal(got, want) {
			t.Errorf("keys are %q, want %q", got, want)
		}
		mustUse(t, h, 1, 1+len(want))
	}
	set := func(s string, v api.Value) { t.Helper(); mustSet(t, h, 1, text(s), v, api.OK) }
	for _, s := range []string{"a", "b", "c", "d"} {
		set(s, num(1))
	}
	set("b", num(2))
	order("a", "b", "c", "d")
	set("b", none)
	order("a", "c", "d")
	set("b", num(3))
	order("a", "c", "d", "b")
	set("a", none)
	set("b", none)
	order("c", "d")
	set("a", num(1))
	order("c", "d", "a")
	for _, s := range []string{"c", "d", "a"} {
		set(s, none)
	}
	order()
	set("d", num(1))
	set("c", num(1))
	order("d", "c")
	mustNext(t, h, 1, none, text("d"), num(1), api.OK)
	mustNext(t, h, 1, text("a"), none, none, api.ErrNone)
}

// P9.2, P9.6: a new key needs room; one that is there, or goes, does not.
func TestSetLimit(t *testing.T) {
	h := mustNew(t, 3)
	mustTable(t, h, 1)
	mustSet(t, h, 1, text("a"), num(1), api.OK)
	mustSet(t, h, 1, text("b"), num(1), api.OK)
	for range 2 {
		mustSet(t, h, 1, text("c"), num(1), api.ErrLong)
		mustUse(t, h, 1, 3)
		mustGet(t, h, 1, text("c"), none)
		mustSet(t, h, 1, text("a"), num(2), api.OK)
		mustGet(t, h, 1, text("a"), num(2))
		mustSet(t, h, 1, text("c"), none, api.OK)
		mustUse(t, h, 1, 3)
	}
	mustSet(t, h, 1, none, num(1), api.ErrArg)
	mustSet(t, h, 2, text("a"), num(1), api.ErrNone)
	mustSet(t, h, 1, text("a"), none, api.OK)
	mustUse(t, h, 1, 2)
	mustSet(t, h, 1, text("c"), num(1), api.OK)
	mustSet(t, h, 1, text("a"), num(1), api.ErrLong)
	mustMake(t, h, api.Box, 0, 0, 0, 0, api.ErrLong)
	mustUse(t, h, 1, 3)
	mustObject(t, h, 1, api.Object{K: api.Table, Keys: []api.Value{text("b"), text("c")}, Vals: []api.Value{num(1), num(1)}})
	h = mustNew(t, 1)
	mustTable(t, h, 1)
	mustSet(t, h, 1, num(1), num(1), api.ErrLong)
	mustUse(t, h, 1, 1)
}

// P9.2, P9.3: objects that there are not, and that are no tables, are none to a table's calls.
func TestNoTables(t *testing.T) {
	h := mustNew(t, 20)
	mustMake(t, h, api.Func, 1, 1, 1, 1, api.OK)
	mustMake(t, h, api.Co, 1, 1, 1, 2, api.OK)
	mustMake(t, h, api.Box, 1, 1, 1, 3, api.OK)
	mustTable(t, h, 4)
	mustSet(t, h, 4, num(1), num(1), api.OK)
	for _, o := range append(noObjects(4), 1, 2, 3) {
		for _, k := range append(keys()[:8], noKey()...) {
			mustGet(t, h, o, k, none)
			mustLook(t, h, o, k, none)
			mustSet(t, h, o, k, num(1), api.ErrNone)
			mustSet(t, h, o, k, none, api.ErrNone)
			mustNext(t, h, o, k, none, none, api.ErrNone)
			mustMeta(t, h, o, k, api.ErrNone)
		}
		mustMeta(t, h, o, tab(4), api.ErrNone)
		mustSize(t, h, o, 0)
		mustUse(t, h, 4, 8)
	}
	for o, k := range []int{api.Func, api.Co, api.Box} {
		mustObject(t, h, o+1, api.Object{K: k, A: 1, B: 1, Slots: []api.Value{none}})
	}
}

// P9.2: the chapter's example, and other sizes: keys that are not whole, not above 0 or texts aren't counted.
func TestSize(t *testing.T) {
	h := mustNew(t, 30)
	mustTable(t, h, 1)
	mustSize(t, h, 1, 0)
	for _, n := range []int{1, 2, 4} {
		mustSet(t, h, 1, num(n), num(n), api.OK)
	}
	mustSize(t, h, 1, 2)
	mustSet(t, h, 1, num(3), num(3), api.OK)
	mustSize(t, h, 1, 4)
	mustSet(t, h, 1, num(2), none, api.OK)
	mustSize(t, h, 1, 1)
	mustSet(t, h, 1, num(1), none, api.OK)
	mustSize(t, h, 1, 0)
	mustSet(t, h, 1, num(2), num(2), api.OK)
	mustSize(t, h, 1, 0)
	for _, k := range []api.Value{num(0), num(-1), float(1.5), float(0.9999999999999999), text("1"), {K: api.Lib, O: 1}, tab(1), {K: api.True, N: num(1).N}, float(math.Inf(1)), float(1 << 63), float(5e-324)} {
		mustSet(t, h, 1, k, num(1), api.OK)
		mustSize(t, h, 1, 0)
	}
	mustSet(t, h, 1, num(1), api.Value{K: api.False}, api.OK)
	mustSize(t, h, 1, 4)
	mustSet(t, h, 1, num(5), api.Value{K: api.Number, N: nan}, api.OK)
	mustSize(t, h, 1, 5)
	mustSet(t, h, 1, num(3), api.Value{K: 77}, api.OK)
	mustSize(t, h, 1, 2)
}

// P9.7: Size is n just if 1 to n are there and n and 1 is not, in whatever order keys come and go.
func TestSizeInAnyOrder(t *testing.T) {
	r := rand.New(rand.NewSource(97))
	for _, most := range []int{1, 2, 3, 5, 63, 64, 65, 66, 127, 128, 129, 130, 200, 300} {
		h := mustNew(t, 1000)
		mustTable(t, h, 1)
		there := make([]bool, most+3)
		for range 40 * most {
			n := 1 + r.Intn(most)
			v := num(n)
			// In turns more keys come than go, and more go than come, so that all there are, and none, are met.
			if there[n] && r.Intn(3) == 0 || !there[n] && r.Intn(40) == 0 {
				v = none
			}
			mustSet(t, h, 1, num(n), v, api.OK)
			there[n] = v != none
			mustSize(t, h, 1, slices.Index(there[1:], false))
		}
		for _, n := range r.Perm(most) {
			mustSet(t, h, 1, num(n+1), num(1), api.OK)
			there[n+1] = true
			mustSize(t, h, 1, slices.Index(there[1:], false))
		}
		mustSize(t, h, 1, most)
		for _, n := range r.Perm(most) {
			mustSet(t, h, 1, num(n+1), none, api.OK)
			there[n+1] = false
			mustSize(t, h, 1, slices.Index(there[1:], false))
		}
		mustSize(t, h, 1, 0)
	}
}

// P9.7: keys that came downwards, or far off, count as soon as those ahead of them are there.
func TestSizeDownwards(t *testing.T) {
	h := mustNew(t, 5000)
	mustTable(t, h, 1)
	for n := 2000; n > 1; n-- {
		mustSet(t, h, 1, num(n), num(1), api.OK)
		mustSize(t, h, 1, 0)
	}
	mustSet(t, h, 1, num(1), num(1), api.OK)
	mustSize(t, h, 1, 2000)
	for n := 2000; n > 3; n-- {
		mustSet(t, h, 1, num(n), none, api.OK)
		mustSize(t, h, 1, n-1)
	}
	mustTable(t, h, 2)
	for n := 100; n < 200; n++ {
		mustSet(t, h, 2, num(n), num(1), api.OK)
		mustSize(t, h, 2, 0)
	}
	for n := 1; n < 99; n++ {
		mustSet(t, h, 2, num(n), num(1), api.OK)
		mustSize(t, h, 2, n)
	}
	mustSet(t, h, 2, num(99), num(1), api.OK)
	mustSize(t, h, 2, 199)
	mustSize(t, h, 1, 3)
}

// P9.2, P9.5: Next from none on, behind the last one, and behind what is not there.
func TestNext(t *testing.T) {
	h := mustNew(t, 1000)
	mustTable(t, h, 1)
	for _, k := range nils() {
		mustNext(t, h, 1, k, none, none, api.OK)
	}
	for _, k := range append(keys(), nans()...) {
		mustNext(t, h, 1, k, none, none, api.ErrNone)
	}
	all := keys()
	for i, k := range all {
		mustNext(t, h, 1, k, none, none, api.ErrNone)
		mustSet(t, h, 1, k, num(i), api.OK)
		mustNext(t, h, 1, k, none, none, api.OK)
	}
	for _, k := range nils() {
		mustNext(t, h, 1, k, all[0], num(0), api.OK)
	}
	for i, k := range all[:len(all)-1] {
		mustNext(t, h, 1, k, all[i+1], num(i+1), api.OK)
	}
	for _, k := range append(nans(), text("none"), num(99), tab(77)) {
		mustNext(t, h, 1, k, none, none, api.ErrNone)
	}
	mustNext(t, h, 1, api.Value{K: api.True, N: 5, S: "x", O: 2}, all[2], num(2), api.OK)
	mustUse(t, h, 1, 1+len(all))
}

// walk is all that Next tells of a table, one behind the other.
func walk(t *testing.T, h *heap.Heap, o int) (ks, vs []api.Value) {
	t.Helper()
	k := none
	for {
		next, v, e := h.Next(o, k)
		if e != api.OK {
			t.Fatalf("Next(%d, %s): %d", o, told(k), e)
		}
		if next == none {
			if v != none {
				t.Errorf("Next(%d, %s) tells a value of no key", o, told(k))
			}
			return ks, vs
		}
		if got := h.Get(o, next); got != v || v == none {
			t.Errorf("Next tells %s of %s, Get %s", told(v), told(next), told(got))
		}
		ks, vs = append(ks, next), append(vs, v)
		if len(ks) > h.Used() {
			t.Fatal("Next tells more keys than there are")
		}
		k = next
	}
}

// P9.5: going through a table tells each key once, in order, also where keys go while it is gone through.
func TestWalk(t *testing.T) {
	h := mustNew(t, 10000)
	mustTable(t, h, 1)
	var want []api.Value
	for _, i := range rand.New(rand.NewSource(95)).Perm(3000) {
		k := num(i)
		if i%3 == 0 {
			k = text(strconv.Itoa(i))
		}
		mustSet(t, h, 1, k, num(i), api.OK)
		want = append(want, k)
	}
	if got, _ := walk(t, h, 1); !slices.Equal(got, want) {
		t.Error("not the keys that came, in their order")
	}
	k := none
	for i := range want {
		next, _, e := h.Next(1, k)
		if e != api.OK || next != want[i] {
			t.Fatalf("Next(1, %s) = %s, %d, want %s", told(k), told(next), e, told(want[i]))
		}
		if k != none && i%2 == 0 {
			mustSet(t, h, 1, k, none, api.OK)
			mustNext(t, h, 1, k, none, none, api.ErrNone)
		}
		mustSet(t, h, 1, next, text("anew"), api.OK)
		k = next
	}
	mustNext(t, h, 1, k, none, none, api.OK)
	for i := 1; i < len(want)-1; i += 2 {
		mustGet(t, h, 1, want[i], none)
		mustNext(t, h, 1, want[i-1], want[i+1], text("anew"), api.OK)
	}
	mustUse(t, h, 1, 1+len(want)/2+1)
}

// P9.3: what may stand in for a table, and what not, and what is told of it.
func TestSetMeta(t *testing.T) {
	h := mustNew(t, 20)
	mustTable(t, h, 1)
	mustTable(t, h, 2)
	mustMake(t, h, api.Func, 0, 0, 0, 3, api.OK)
	mustMake(t, h, api.Co, 0, 0, 0, 4, api.OK)
	mustMake(t, h, api.Box, 0, 0, 0, 5, api.OK)
	mustMeta(t, h, 1, tab(2), api.OK)
	wrong := append(keys()[:40], nans()...)
	for _, o := range append(noObjects(5), 3, 4, 5) {
		wrong = append(wrong, tab(o))
	}
	for _, k := range []int{api.False, api.True, api.Number, api.Text, api.Func, api.Co, api.Lib} {
		wrong = append(wrong, api.Value{K: k, O: 1, N: 1, S: "1"})
	}
	for _, m := range wrong {
		mustMeta(t, h, 1, m, api.ErrArg)
		mustObject(t, h, 1, api.Object{K: api.Table, Meta: tab(2)})
	}
	for _, m := range nils() {
		mustMeta(t, h, 1, api.Value{K: api.Table, O: 2, N: 5, S: "x"}, api.OK)
		mustObject(t, h, 1, api.Object{K: api.Table, Meta: tab(2)})
		mustMeta(t, h, 1, m, api.OK)
		mustObject(t, h, 1, api.Object{K: api.Table})
	}
	mustMeta(t, h, 1, tab(1), api.OK)
	mustObject(t, h, 1, api.Object{K: api.Table, Meta: tab(1)})
	mustUse(t, h, 5, 5)
	mustMeta(t, h, 0, tab(77), api.ErrNone)
}

// P9.3: Look asks what stands in for keys that are not there, and there alone.
func TestLook(t *testing.T) {
	h := mustNew(t, 20)
	for o := range 3 {
		mustTable(t, h, o+1)
	}
	mustSet(t, h, 1, text("a"), num(1), api.OK)
	mustSet(t, h, 2, text("a"), num(2), api.OK)
	mustSet(t, h, 2, text("b"), num(2), api.OK)
	mustSet(t, h, 3, text("c"), api.Value{K: api.False}, api.OK)
	mustLook(t, h, 1, text("b"), none)
	mustMeta(t, h, 1, tab(2), api.OK)
	mustMeta(t, h, 2, tab(3), api.OK)
	mustLook(t, h, 1, text("a"), num(1))
	mustLook(t, h, 1, text("b"), num(2))
	mustLook(t, h, 1, text("c"), api.Value{K: api.False})
	mustLook(t, h, 1, text("d"), none)
	mustLook(t, h, 2, text("a"), num(2))
	mustLook(t, h, 3, text("a"), none)
	mustGet(t, h, 1, text("b"), none)
	for _, k := range noKey() {
		mustLook(t, h, 1, k, none)
	}
	mustSet(t, h, 2, num(0), num(5), api.OK)
	mustLook(t, h, 1, api.Value{K: api.Number, N: low}, num(5))
	mustSet(t, h, 1, text("a"), none, api.OK)
	mustLook(t, h, 1, text("a"), num(2))
	mustMeta(t, h, 2, none, api.OK)
	mustLook(t, h, 1, text("c"), none)
	mustMeta(t, h, 1, none, api.OK)
	mustLook(t, h, 1, text("a"), none)
	mustUse(t, h, 3, 7)
}

// P9.3: one for another at most 16 times: what is 16 tables behind is found, what is 17 behind is not.
func TestLookFar(t *testing.T) {
	for behind := 1; behind <= 20; behind++ {
		h := mustNew(t, 100)
		for o := range behind + 1 {
			mustTable(t, h, o+1)
			if o > 0 {
				mustMeta(t, h, o, tab(o+1), api.OK)
			}
		}
		mustSet(t, h, behind+1, text("k"), num(7), api.OK)
		for from := 1; from <= behind+1; from++ {
			want := none
			if behind+1-from <= 16 {
				want = num(7)
			}
			mustLook(t, h, from, text("k"), want)
			mustLook(t, h, from, text("other"), none)
		}
	}
}

// P9.3: tables that stand in for themselves, and for one another in a ring: Look ends.
func TestLookInRings(t *testing.T) {
	for _, ring := range []int{1, 2, 3, 15, 16, 17, 18, 30} {
		h := mustNew(t, 100)
		for o := range ring {
			mustTable(t, h, o+1)
		}
		for o := range ring {
			mustMeta(t, h, o+1, tab((o+1)%ring+1), api.OK)
		}
		mustLook(t, h, 1, text("k"), none)
		mustSet(t, h, 1, text("k"), num(1), api.OK)
		for from := range ring {
			want := none
			if (ring-from)%ring <= 16 {
				want = num(1)
			}
			mustLook(t, h, from+1, text("k"), want)
		}
	}
}

// P9.8: tables know nothing of one another; what stands in changes nothing but Look.
func TestApart(t *testing.T) {
	h := mustNew(t, 1000)
	other := mustNew(t, 1000)
	for o := range 3 {
		mustTable(t, h, o+1)
		mustTable(t, other, o+1)
	}
	mustMeta(t, h, 1, tab(2), api.OK)
	all := keys()
	for i, k := range all {
		mustSet(t, h, 2, k, num(i), api.OK)
		mustGet(t, h, 1, k, none)
		mustGet(t, h, 3, k, none)
		mustLook(t, h, 3, k, none)
		mustLook(t, h, 1, k, num(i))
		mustLook(t, other, 2, k, none)
		mustNext(t, h, 1, k, none, none, api.ErrNone)
	}
	mustSize(t, h, 2, 5)
	mustSize(t, h, 1, 0)
	mustNext(t, h, 1, none, none, none, api.OK)
	mustObject(t, h, 1, api.Object{K: api.Table, Meta: tab(2)})
	mustObject(t, h, 3, api.Object{K: api.Table})
	for _, k := range all {
		mustSet(t, h, 1, k, text("own"), api.OK)
		mustSet(t, h, 3, k, text("third"), api.OK)
	}
	for i, k := range all {
		mustGet(t, h, 2, k, num(i))
		mustSet(t, h, 1, k, none, api.OK)
		mustLook(t, h, 1, k, num(i))
		mustGet(t, h, 3, k, text("third"))
	}
	mustUse(t, h, 3, 3+2*len(all))
	mustUse(t, other, 3, 3)
	mustObject(t, other, 1, api.Object{K: api.Table})
}

// P9.4: which kinds and how many slots there may be; ErrArg ahead of ErrLong.
func TestMake(t *testing.T) {
	for _, kind := range []int{api.Func, api.Co, api.Box} {
		for _, slots := range []int{0, 1, 2, 254, 255} {
			h := mustNew(t, 1+slots)
			mustMake(t, h, kind, -7, math.MaxInt, slots, 1, api.OK)
			mustUse(t, h, 1, 1+slots)
			mustObject(t, h, 1, api.Object{K: kind, A: -7, B: math.MaxInt, Slots: make([]api.Value, slots)})
			mustMake(t, h, kind, 0, 0, 0, 0, api.ErrLong)
			mustUse(t, h, 1, 1+slots)
			h = mustNew(t, slots)
			mustMake(t, h, kind, 0, 0, slots, 0, api.ErrLong)
			mustUse(t, h, 0, 0)
			mustNoObject(t, h, 1)
		}
		for _, slots := range []int{-1, -2, 256, 257, 1 << 20, 1<<32 + 1, math.MaxInt, math.MinInt} {
			for _, limit := range []int{0, api.MaxCells} {
				h := mustNew(t, limit)
				mustMake(t, h, kind, 0, 0, slots, 0, api.ErrArg)
				mustUse(t, h, 0, 0)
			}
		}
	}
	for _, kind := range append(noKinds()[1:], api.Nil, api.False, api.True, api.Number, api.Text, api.Table, api.Lib) {
		for _, limit := range []int{0, 10} {
			h := mustNew(t, limit)
			mustMake(t, h, kind, 0, 0, 1, 0, api.ErrArg)
			mustUse(t, h, 0, 0)
		}
	}
}

// P9.4, P9.6: what there must be left is one cell and one of each slot.
func TestMakeLimit(t *testing.T) {
	h := mustNew(t, 10)
	mustTable(t, h, 1)
	mustSet(t, h, 1, num(1), num(1), api.OK)
	mustMake(t, h, api.Func, 0, 0, 8, 0, api.ErrLong)
	mustUse(t, h, 1, 2)
	mustMake(t, h, api.Func, 0, 0, 7, 2, api.OK)
	mustUse(t, h, 2, 10)
	mustMake(t, h, api.Co, 0, 0, 0, 0, api.ErrLong)
	mustSet(t, h, 1, num(1), none, api.OK)
	mustMake(t, h, api.Co, 0, 0, 1, 0, api.ErrLong)
	mustMake(t, h, api.Co, 0, 0, 0, 3, api.OK)
	mustUse(t, h, 3, 10)
}

// P9.4: slots from 0 on, each with a value of its own, in its normal form; a Box as it is.
func TestSlots(t *testing.T) {
	h := mustNew(t, 2000)
	for o, kind := range []int{api.Func, api.Co, api.Box} {
		mustMake(t, h, kind, 1, 2, 255, o+1, api.OK)
		want := make([]api.Value, 255)
		for i, v := range append(append(keys(), nans()...), nils()...) {
			mustSetSlot(t, h, o+1, i, v, api.OK)
			want[i] = normalByWords(v)
			if v.K == api.Box {
				want[i] = v
			}
			mustSlot(t, h, o+1, i, want[i])
			mustUse(t, h, o+1, 256*(o+1))
		}
		mustSetSlot(t, h, o+1, 254, text("last"), api.OK)
		want[254] = text("last")
		for _, k := range []int{0, 1, 2, 3, 4, 5, 6, 7, 8, 9, 10} {
			v := api.Value{K: k, N: low, S: "s", O: -3}
			mustSetSlot(t, h, o+1, 200+k, v, api.OK)
			want[200+k] = normalByWords(v)
			if k == api.Box {
				want[200+k] = v
			}
		}
		for i, v := range want {
			mustSlot(t, h, o+1, i, v)
		}
		mustObject(t, h, o+1, api.Object{K: kind, A: 1, B: 2, Slots: want})
		mustSetSlot(t, h, o+1, 254, none, api.OK)
		mustSlot(t, h, o+1, 254, none)
	}
}

// P9.4: slots that there are not, of objects, of tables, of none.
func TestNoSlots(t *testing.T) {
	h := mustNew(t, 20)
	mustMake(t, h, api.Func, 0, 0, 2, 1, api.OK)
	mustMake(t, h, api.Box, 0, 0, 0, 2, api.OK)
	mustTable(t, h, 3)
	mustSet(t, h, 3, num(0), num(1), api.OK)
	for _, i := range []int{2, 3, -1, 255, 256, 1 << 32, math.MaxInt, math.MinInt} {
		mustSlot(t, h, 1, i, none)
		mustSetSlot(t, h, 1, i, num(1), api.ErrNone)
	}
	for _, o := range append(noObjects(3), 2, 3) {
		for _, i := range []int{0, 1, -1, math.MaxInt, math.MinInt} {
			mustSlot(t, h, o, i, none)
			mustSetSlot(t, h, o, i, num(1), api.ErrNone)
		}
	}
	mustObject(t, h, 1, api.Object{K: api.Func, Slots: []api.Value{none, none}})
	mustObject(t, h, 3, api.Object{K: api.Table, Keys: []api.Value{num(0)}, Vals: []api.Value{num(1)}})
	mustUse(t, h, 3, 6)
}

// P9.4: Mark changes A, and nothing else; of tables and of none: ErrNone.
func TestMark(t *testing.T) {
	h := mustNew(t, 20)
	for o, kind := range []int{api.Func, api.Co, api.Box} {
		mustMake(t, h, kind, 1, 2, 1, o+1, api.OK)
		mustSetSlot(t, h, o+1, 0, num(5), api.OK)
	}
	mustTable(t, h, 4)
	for o, kind := range []int{api.Func, api.Co, api.Box} {
		for _, a := range []int{8, 0, -1, math.MaxInt, math.MinInt} {
			mustMark(t, h, o+1, a, api.OK)
			mustObject(t, h, o+1, api.Object{K: kind, A: a, B: 2, Slots: []api.Value{num(5)}})
		}
	}
	for _, o := range append(noObjects(4), 4) {
		mustMark(t, h, o, 3, api.ErrNone)
	}
	mustObject(t, h, 4, api.Object{K: api.Table})
	mustUse(t, h, 4, 7)
}

// P9.6: a table of MaxCells, filled, gone through, and emptied from the front; keys of other kinds among them.
func TestFullOfKeys(t *testing.T) {
	h := mustNew(t, api.MaxCells)
	mustTable(t, h, 1)
	most := api.MaxCells - 1
	for n := 1; n <= most; n++ {
		if h.Set(1, num(n), num(-n)) != api.OK || h.Size(1) != n || h.Used() != n+1 {
			t.Fatalf("Set %d: Size %d, Used %d", n, h.Size(1), h.Used())
		}
	}
	mustSet(t, h, 1, num(most+1), num(1), api.ErrLong)
	mustSet(t, h, 1, text("a"), num(1), api.ErrLong)
	if o, e := h.Table(); o != 0 || e != api.ErrLong {
		t.Errorf("Table() = %d, %d, want 0, 2", o, e)
	}
	mustUse(t, h, 1, api.MaxCells)
	mustSize(t, h, 1, most)
	for n := 1; n < most; n++ {
		if k, v, e := h.Next(1, num(n)); k != num(n+1) || v != num(-n-1) || e != api.OK {
			t.Fatalf("Next behind %d: %s, %s, %d", n, told(k), told(v), e)
		}
	}
	mustSet(t, h, 1, num(1), none, api.OK)
	mustSet(t, h, 1, text("a"), num(1), api.OK)
	mustUse(t, h, 1, api.MaxCells)
	for n := 2; n <= most; n++ {
		if k, _, e := h.Next(1, none); k != num(n) || e != api.OK || h.Set(1, k, none) != api.OK || h.Size(1) != 0 || h.Used() != api.MaxCells-n+1 {
			t.Fatalf("the first is %s, %d", told(k), e)
		}
	}
	mustObject(t, h, 1, api.Object{K: api.Table, Keys: []api.Value{text("a")}, Vals: []api.Value{num(1)}})
	mustUse(t, h, 1, 2)
}

// P9.6: MaxCells tables, and MaxCells cells of other objects.
func TestFullOfObjects(t *testing.T) {
	h := mustNew(t, api.MaxCells)
	for o := 1; o <= api.MaxCells; o++ {
		if got, e := h.Table(); got != o || e != api.OK || h.Used() != o || h.Len() != o {
			t.Fatalf("Table() = %d, %d, want %d", got, e, o)
		}
	}
	if o, e := h.Table(); o != 0 || e != api.ErrLong {
		t.Errorf("Table() = %d, %d, want 0, 2", o, e)
	}
	mustMake(t, h, api.Box, 0, 0, 0, 0, api.ErrLong)
	mustSet(t, h, api.MaxCells, num(1), num(1), api.ErrLong)
	mustUse(t, h, api.MaxCells, api.MaxCells)
	mustObject(t, h, api.MaxCells, api.Object{K: api.Table})
	mustNoObject(t, h, api.MaxCells+1)
	h = mustNew(t, api.MaxCells)
	for o := 1; o <= api.MaxCells/256; o++ {
		if got, e := h.Make(api.Func, o, 0, 255); got != o || e != api.OK {
			t.Fatalf("Make = %d, %d, want %d", got, e, o)
		}
	}
	mustMake(t, h, api.Func, 0, 0, 0, 0, api.ErrLong)
	mustUse(t, h, api.MaxCells/256, api.MaxCells)
}

// P9.2: many keys of one family each: what differs in few bits only is found all the same, and soon.
func TestManyKeys(t *testing.T) {
	const many = 60000
	families := map[string]func(i int) api.Value{
		"whole":     num,
		"below 0":   func(i int) api.Value { return num(-i) },
		"far apart": func(i int) api.Value { return float(float64(i) * (1 << 40)) },
		"fractions": func(i int) api.Value { return float(float64(i) / 65536) },
		"tiny":      func(i int) api.Value { return api.Value{K: api.Number, N: api.Num(i)} },
		"high bits": func(i int) api.Value { return api.Value{K: api.Number, N: api.Num(i) << 46} },
		"numerals":  func(i int) api.Value { return text(strconv.Itoa(i)) },
		"long":      func(i int) api.Value { return text("a long beginning that all of them share " + strconv.Itoa(i)) },
		"endings":   func(i int) api.Value { return text(strconv.Itoa(i) + " a long ending that all of them share") },
		"noughts":   func(i int) api.Value { return text(strings.Repeat("\x00", i%300) + strconv.Itoa(i/300)) },
		"tables":    tab,
		"functions": func(i int) api.Value { return api.Value{K: api.Func, O: i << 32} },
		"threads":   func(i int) api.Value { return api.Value{K: api.Co, O: -i} },
		"built-in":  func(i int) api.Value { return api.Value{K: api.Lib, O: i << 16} },
	}
	for name, key := range families {
		h := mustNew(t, api.MaxCells)
		mustTable(t, h, 1)
		for i := range many {
			mustSet(t, h, 1, key(i), num(i), api.OK)
		}
		mustUse(t, h, 1, many+1)
		for i := range many {
			if h.Get(1, key(i)) != num(i) {
				t.Fatalf("%s: %s is not there", name, told(key(i)))
			}
		}
		for i := 0; i < many; i += 2 {
			mustSet(t, h, 1, key(i), none, api.OK)
		}
		ks, vs := walk(t, h, 1)
		if len(ks) != many/2 || len(vs) != many/2 {
			t.Fatalf("%s: %d keys are left", name, len(ks))
		}
		for i, k := range ks {
			if k != key(2*i+1) || vs[i] != num(2*i+1) {
				t.Fatalf("%s: %s is out of its order", name, told(k))
			}
		}
	}
}

// hand is what acts by chance are done with.
type hand struct {
	*rand.Rand
	keys, vals []api.Value
}

// object is mostly an object's number, sometimes none's.
func (r hand) object(n int) int {
	if r.Intn(20) == 0 {
		wrong := noObjects(n)
		return wrong[r.Intn(len(wrong))]
	}
	return 1 + r.Intn(n+1)
}

// value is one of some, or an object that there is, or is not.
func (r hand) value(l []api.Value, n int) api.Value {
	if r.Intn(15) == 0 {
		return api.Value{K: 4 + r.Intn(6), O: r.object(n)}
	}
	return l[r.Intn(len(l))]
}

// change does one act that changes a heap on both heaps, and holds the answers against each other.
func (r hand) change(t *testing.T, h *heap.Heap, p *plain) {
	t.Helper()
	n := len(p.objs)
	o := r.object(n)
	switch r.Intn(40) {
	case 0:
		got, e := h.Table()
		if want, err := p.Table(); got != want || e != err {
			t.Errorf("Table() = %d, %d, want %d, %d", got, e, want, err)
		}
	case 1:
		kind, a, b, slots := 4+r.Intn(7), r.Intn(9)-4, r.Intn(9)-4, r.Intn(6)-1
		if r.Intn(4) == 0 {
			slots = 250 + r.Intn(8)
		}
		want, err := p.Make(kind, a, b, slots)
		mustMake(t, h, kind, a, b, slots, want, err)
	case 2, 3, 4:
		m := r.value(r.vals, n)
		if r.Intn(3) > 0 {
			m = tab(r.object(n))
		}
		mustMeta(t, h, o, m, p.SetMeta(o, m))
	case 5, 6, 7:
		i, v := r.Intn(6)-1, r.value(r.vals, n)
		mustSetSlot(t, h, o, i, v, p.SetSlot(o, i, v))
	case 8:
		mustMark(t, h, o, n, p.Mark(o, n))
	case 9, 10, 11, 12, 13, 14, 15, 16:
		k := r.value(r.keys, n)
		mustSet(t, h, o, k, none, p.Set(o, k, none))
	default:
		k, v := r.value(r.keys, n), r.value(r.vals, n)
		mustSet(t, h, o, k, v, p.Set(o, k, v))
	}
}

// ask asks both heaps for what a key, a slot and a size are.
func (r hand) ask(t *testing.T, h *heap.Heap, p *plain) {
	t.Helper()
	o, k, i := r.object(len(p.objs)), r.value(r.keys, len(p.objs)), r.Intn(7)-1
	mustGet(t, h, o, k, p.Get(o, k))
	mustLook(t, h, o, k, p.Look(o, k))
	mustSize(t, h, o, p.Size(o))
	mustSlot(t, h, o, i, p.Slot(o, i))
	key, val, e := p.Next(o, k)
	mustNext(t, h, o, k, key, val, e)
}

// P9.1 to P9.8: long runs of acts, against the plain list of keys and values.
func TestLongRuns(t *testing.T) {
	some := append(append(keys(), noKey()...), api.Value{K: api.Number, N: low})
	few := []api.Value{num(1), num(2), num(3), num(4), num(5), text("a"), {K: api.Number, N: low}, num(0), none, {K: api.Number, N: nan}}
	var many []api.Value
	for n := range 150 {
		many = append(many, num(n), text(strconv.Itoa(n)))
	}
	for i, x := range []struct {
		limit int
		keys  []api.Value
	}{{0, few}, {1, few}, {2, few}, {5, few}, {10, few}, {30, few}, {300, few}, {20, some}, {100, some}, {1000, some}, {200, many}, {600, many}, {1500, many}} {
		r := hand{rand.New(rand.NewSource(int64(i))), x.keys, some}
		h, p := mustNew(t, x.limit), &plain{limit: x.limit}
		for step := range 6000 {
			r.change(t, h, p)
			mustUse(t, h, len(p.objs), p.used())
			if h.Used() > x.limit {
				t.Errorf("%d cells of %d", h.Used(), x.limit)
			}
			r.ask(t, h, p)
			if step%200 == 0 {
				mustBeAs(t, h, p)
			}
			if t.Failed() {
				t.Fatalf("limit %d, step %d", x.limit, step)
			}
		}
		for o := 1; o <= h.Len(); o++ {
			if x := p.table(o); x != nil {
				ks, vs := walk(t, h, o)
				if !slices.Equal(ks, x.Keys) || !slices.Equal(vs, x.Vals) {
					t.Errorf("Next tells %v, %v, want %v, %v", ks, vs, x.Keys, x.Vals)
				}
			}
		}
	}
}

// P9.1 to P9.8: one table that grows to thousands of keys, and wanes to none, several times.
func TestGrowAndWane(t *testing.T) {
	r := rand.New(rand.NewSource(9))
	h, p := mustNew(t, 3000), &plain{limit: 3000}
	mustTable(t, h, 1)
	p.Table()
	for round := range 6 {
		most := []int{3, 70, 3000, 10, 1500, 130}[round]
		for range most {
			k := num(r.Intn(most) + 1)
			v := num(r.Intn(100))
			mustSet(t, h, 1, k, v, p.Set(1, k, v))
		}
		mustBeAs(t, h, p)
		for len(p.objs[0].Keys) > 0 {
			k := p.objs[0].Keys[r.Intn(len(p.objs[0].Keys))]
			mustSet(t, h, 1, k, none, p.Set(1, k, none))
			if len(p.objs[0].Keys)%50 == 0 {
				mustBeAs(t, h, p)
			}
		}
		mustBeAs(t, h, p)
	}
}

// P9.1 to P9.4: any arguments at all: no call panics, and each answers what the words say.
func TestAnyArguments(t *testing.T) {
	r := rand.New(rand.NewSource(99))
	number := func() int {
		switch r.Intn(4) {
		case 0:
			return int(r.Uint64())
		case 1:
			return 1<<r.Intn(64) - r.Intn(3)
		case 2:
			return -1<<r.Intn(64) + r.Intn(3)
		}
		return r.Intn(12) - 2
	}
	anyValue := func() api.Value {
		return api.Value{K: number(), N: api.Num(r.Uint64()), S: strings.Repeat("\xff", r.Intn(20)), O: number()}
	}
	for range 50 {
		limit := r.Intn(40)
		h, p := mustNew(t, limit), &plain{limit: limit}
		h.Table()
		p.Table()
		for range 400 {
			o, i, k, v := number(), number(), anyValue(), anyValue()
			mustGet(t, h, o, k, p.Get(o, k))
			mustSet(t, h, o, k, v, p.Set(o, k, v))
			mustSize(t, h, o, p.Size(o))
			key, val, e := p.Next(o, k)
			mustNext(t, h, o, k, key, val, e)
			mustMeta(t, h, o, v, p.SetMeta(o, v))
			mustLook(t, h, o, k, p.Look(o, k))
			a, b := number(), number()
			kind, slots := number(), number()
			want, err := p.Make(kind, a, b, slots)
			mustMake(t, h, kind, a, b, slots, want, err)
			mustSetSlot(t, h, o, i, v, p.SetSlot(o, i, v))
			mustSlot(t, h, o, i, p.Slot(o, i))
			mustMark(t, h, o, a, p.Mark(o, a))
			h.Object(o)
			mustUse(t, h, len(p.objs), p.used())
		}
		mustBeAs(t, h, p)
		if n := number(); n < 0 || n > api.MaxCells {
			if h, e := heap.New(n); h != nil || e != api.ErrArg {
				t.Errorf("New(%d) = %v, %d, want nil, 1", n, h, e)
			}
		}
	}
}
