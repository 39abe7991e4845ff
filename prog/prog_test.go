package prog_test

import (
	"math"
	"math/rand"
	"reflect"
	"slices"
	"strings"
	"testing"

	"minstrel/api"
	"minstrel/prog"
)

// noOps are numbers that are no orders.
var noOps = []int{-1, -2, -37, -38, 38, 39, 40, 99, 255, 256, 256 + 17, 1 << 31, 1 << 32, 1<<32 + 1, math.MaxInt, math.MinInt, math.MinInt + 1}

// P13.1: the numbers of api are those of the table.
func TestNumbers(t *testing.T) {
	named := []int{api.OpConst, api.OpMove, api.OpShift, api.OpClear, api.OpNewBox, api.OpGetBox, api.OpSetBox, api.OpGetUp, api.OpSetUp, api.OpGetGlobal, api.OpSetGlobal, api.OpIndex, api.OpSetIndex, api.OpMake, api.OpNot, api.OpNeg, api.OpLen, api.OpAdd, api.OpSub, api.OpMul, api.OpDiv, api.OpMod, api.OpConcat, api.OpEq, api.OpNe, api.OpLt, api.OpLe, api.OpGt, api.OpGe, api.OpJump, api.OpJumpIf, api.OpJumpNot, api.OpCall, api.OpReturn, api.OpEnd, api.OpClosure, api.OpForCheck, api.OpForStep}
	if len(named) != len(byNumber) {
		t.Fatal(len(named), len(byNumber))
	}
	for i, op := range named {
		if op != i {
			t.Error(i, op)
		}
	}
}

// P13.1: Cost and Name of every order of the table.
func TestOrders(t *testing.T) {
	for _, r := range byNumber {
		if c, n := prog.Cost(r.op), prog.Name(r.op); c != r.cost || n != r.name {
			t.Errorf("%d: %d, %q, want %d, %q", r.op, c, n, r.cost, r.name)
		}
	}
}

// P13.1: Cost and Name of numbers that are no orders.
func TestNoOrders(t *testing.T) {
	for _, op := range noOps {
		if c, n := prog.Cost(op), prog.Name(op); c != 0 || n != "none" {
			t.Errorf("%d: %d, %q", op, c, n)
		}
	}
	for op := -1000; op < 1000; op++ {
		if c, n := prog.Cost(op), prog.Name(op); (op < 0 || op > 37) && (c != 0 || n != "none") {
			t.Errorf("%d: %d, %q", op, c, n)
		}
	}
}

// example is return 1, as the chapter has it.
func example() api.Proto {
	return api.Proto{Regs: 1, Consts: []api.Value{{K: api.Number, N: bits(1)}}, Code: []api.Instr{{Op: api.OpConst}, {Op: api.OpReturn}, {Op: api.OpEnd}}}
}

// P13.1, P13.2: the chapter's example.
func TestExample(t *testing.T) {
	p := example()
	if e := prog.Check(p); e != api.OK {
		t.Error(e)
	}
	if s := prog.Print(p); s != "0 const 0 0\n1 return 0\n2 end\n" {
		t.Errorf("%q", s)
	}
	want := many(num(0), num(1), many(), many(many(num(0), num(0), num(0), num(0)), many(num(33), num(0), num(0), num(0)), many(num(34), num(0), num(0), num(0))), many(many(num(3), api.Cell{N: 0x3ff0000000000000})), many())
	if c := prog.ToCell(p); !alikeCells(c, want) {
		t.Error(c)
	}
	if q, e := prog.FromCell(want); e != api.OK || !alike(q, p) {
		t.Error(q, e)
	}
	if l := prog.Flat(p); len(l) != 1 || !alike(l[0], p) {
		t.Error(l)
	}
}

// P13.2: Print of every order, with operands that tell which is which, and of numbers that are no orders.
func TestPrintOrders(t *testing.T) {
	for _, r := range byNumber {
		want := map[int]string{0: "", 1: " -7", 2: " -7 80", 3: " -7 80 9223372036854775807"}[len(r.operands)]
		if s := prog.Print(api.Proto{Code: []api.Instr{{Op: r.op, A: -7, B: 80, C: math.MaxInt}}}); s != "0 "+r.name+want+"\n" {
			t.Errorf("%d: %q", r.op, s)
		}
	}
	for _, op := range noOps {
		if s := prog.Print(api.Proto{Code: []api.Instr{{Op: op, A: 1, B: 2, C: 3}}}); s != "0 none\n" {
			t.Errorf("%d: %q", op, s)
		}
	}
	if s := prog.Print(api.Proto{Params: 3, Regs: 5, Ups: []api.Up{{}}, Consts: goodConsts()}); s != "" {
		t.Errorf("%q", s)
	}
}

// named is a function that is known by the constant that it has.
func named(name string, within ...api.Proto) api.Proto {
	return api.Proto{Regs: 1, Consts: []api.Value{{K: api.Text, S: name}}, Code: []api.Instr{{Op: api.OpClear}, {Op: api.OpEnd}}, Protos: within}
}

// P13.2: Print of functions within functions: each about it counts from 0.
func TestPrintWithin(t *testing.T) {
	p := named("p", named("a", named("aa"), named("ab")), named("b"))
	for i := range 9 {
		p.Code = append(p.Code, api.Instr{Op: api.OpJump, A: i})
	}
	own := "0 clear 0\n1 end\n"
	places := "2 jump 0\n3 jump 1\n4 jump 2\n5 jump 3\n6 jump 4\n7 jump 5\n8 jump 6\n9 jump 7\n10 jump 8\n"
	want := own + places + "function 0\n" + own + "function 0\n" + own + "function 1\n" + own + "function 1\n" + own
	if s := prog.Print(p); s != want {
		t.Errorf("%q", s)
	}
	wide := named("w", slices.Repeat([]api.Proto{{}}, 12)...)
	if s := prog.Print(wide); s != own+"function 0\nfunction 1\nfunction 2\nfunction 3\nfunction 4\nfunction 5\nfunction 6\nfunction 7\nfunction 8\nfunction 9\nfunction 10\nfunction 11\n" {
		t.Errorf("%q", s)
	}
}

// P13.2: Flat's order over functions within functions, each with all that is within it.
func TestFlat(t *testing.T) {
	p := named("p", named("a", named("aa", named("aaa")), named("ab")), named("b"), named("c", named("ca")))
	var names []string
	for _, f := range prog.Flat(p) {
		names = append(names, f.Consts[0].S)
	}
	if s := strings.Join(names, " "); s != "p a aa aaa ab b c ca" {
		t.Error(s)
	}
	for i, f := range prog.Flat(p) {
		if !alike(f, flatByWords(p)[i]) {
			t.Error(i, f)
		}
	}
	if l := prog.Flat(api.Proto{}); len(l) != 1 || !alike(l[0], api.Proto{}) {
		t.Error(l)
	}
}

// P13.2: Flat and Print of functions by chance, sound or not, as the words have them.
func TestFlatAndPrintByChance(t *testing.T) {
	m := maker{rand.New(rand.NewSource(1)), 10}
	for range 3000 {
		p := m.function(nil, 3)
		if s := prog.Print(p); s != printByWords(p) {
			t.Fatalf("%q, want %q", s, printByWords(p))
		}
		if !slices.EqualFunc(prog.Flat(p), flatByWords(p), alike) {
			t.Fatalf("%v", p)
		}
	}
}

// room is where a list's memory lies, its spare room too.
type room struct{ from, to uintptr }

// rooms are those of all lists in x, however deep.
func rooms(x reflect.Value) []room {
	var all []room
	switch x.Kind() {
	case reflect.Slice:
		size := uintptr(x.Cap()) * x.Type().Elem().Size()
		if size > 0 {
			all = append(all, room{x.Pointer(), x.Pointer() + size})
		}
		for i := range x.Len() {
			all = append(all, rooms(x.Index(i))...)
		}
	case reflect.Struct:
		for i := range x.NumField() {
			all = append(all, rooms(x.Field(i))...)
		}
	}
	return all
}

// mustBeApart: no two of these lists share memory.
func mustBeApart(t *testing.T, things ...any) {
	t.Helper()
	var all []room
	for _, x := range things {
		all = append(all, rooms(reflect.ValueOf(x))...)
	}
	slices.SortFunc(all, func(a, b room) int { return int(a.from) - int(b.from) })
	for i := range all[1:] {
		if all[i].to > all[i+1].from {
			t.Errorf("two lists share memory")
		}
	}
}

// spare is p with room behind all its lists.
func spare(p api.Proto) api.Proto {
	p.Ups = append(make([]api.Up, 0, len(p.Ups)+3), p.Ups...)
	p.Code = append(make([]api.Instr, 0, len(p.Code)+3), p.Code...)
	p.Consts = append(make([]api.Value, 0, len(p.Consts)+3), p.Consts...)
	l := make([]api.Proto, 0, len(p.Protos)+3)
	for _, in := range p.Protos {
		l = append(l, spare(in))
	}
	p.Protos = l
	return p
}

// whole is x with the spare room of its lists laid open.
func whole(x any) any {
	v := reflect.New(reflect.TypeOf(x)).Elem()
	v.Set(reflect.ValueOf(x))
	open(v)
	return v.Interface()
}

func open(v reflect.Value) {
	switch v.Kind() {
	case reflect.Slice:
		l := reflect.MakeSlice(v.Type(), v.Cap(), v.Cap())
		reflect.Copy(l, v.Slice(0, v.Cap()))
		for i := range l.Len() {
			open(l.Index(i))
		}
		v.Set(l)
	case reflect.Struct:
		for i := range v.NumField() {
			open(v.Field(i))
		}
	}
}

// P13.1, P13.2: what is handed in is neither changed nor kept, its spare room too; answers are new memory.
func TestMemory(t *testing.T) {
	m := maker{rand.New(rand.NewSource(2)), 0}
	for range 300 {
		p := spare(m.function(nil, 3))
		before := whole(p)
		e := prog.Check(p)
		flat, flat2, c, c2 := prog.Flat(p), prog.Flat(p), prog.ToCell(p), prog.ToCell(p)
		prog.Print(p)
		if !reflect.DeepEqual(before, whole(p)) {
			t.Fatal("a function was changed")
		}
		cells := whole(c)
		q, e2 := prog.FromCell(c)
		q2, _ := prog.FromCell(c)
		if e != api.OK || e2 != api.OK || !reflect.DeepEqual(cells, whole(c)) {
			t.Fatal("a cell was changed", e, e2)
		}
		mustBeApart(t, p, flat, flat2, c, c2, q, q2)
	}
}

// P13.1, P13.2: nil and empty lists are alike.
func TestEmptyLists(t *testing.T) {
	p, q := example(), example()
	q.Ups, q.Protos = []api.Up{}, []api.Proto{}
	if prog.Check(q) != api.OK || !alikeCells(prog.ToCell(p), prog.ToCell(q)) || prog.Print(p) != prog.Print(q) {
		t.Error("empty lists")
	}
	c := prog.ToCell(p)
	c.L[2].L, c.L[5].L = nil, []api.Cell{}
	if r, e := prog.FromCell(c); e != api.OK || !alike(r, p) {
		t.Error(r, e)
	}
	q.Code, q.Consts = []api.Instr{}, []api.Value{}
	if e := prog.Check(q); e != api.ErrArg {
		t.Error(e)
	}
}

// chain is so many functions, each within the one ahead of it.
func chain(count int) api.Proto {
	p := named("last")
	for range count - 1 {
		p = named("about", p)
	}
	return p
}

// P13.1, P13.2: what lies very deep ends, too.
func TestDeep(t *testing.T) {
	p := chain(1 << 15)
	if e := prog.Check(p); e != api.ErrLong {
		t.Error(e)
	}
	c := prog.ToCell(p)
	if q, e := prog.FromCell(c); e != api.ErrForm || !alike(q, api.Proto{}) {
		t.Error(e)
	}
	if s := prog.Print(p); s != "0 clear 0\n1 end\n"+strings.Repeat("function 0\n0 clear 0\n1 end\n", 1<<15-1) {
		t.Error(len(s))
	}
	if l := prog.Flat(chain(1000)); len(l) != 1000 || len(prog.Flat(l[500])) != 500 {
		t.Error(len(l))
	}
	for range 1 << 16 {
		c = many(c)
	}
	if _, e := prog.FromCell(c); e != api.ErrForm {
		t.Error(e)
	}
}

// P13.1, P13.2: lists that lie in one another so often that nobody could go through all of them.
func TestSharedLists(t *testing.T) {
	p := named("p")
	c := prog.ToCell(p)
	for range 90 {
		p = named("p", p, p, p)
		l := c
		c = prog.ToCell(named("p"))
		c.L[5] = many(l, l, l)
	}
	if e := prog.Check(p); e != api.ErrLong {
		t.Error(e)
	}
	if _, e := prog.FromCell(c); e != api.ErrForm {
		t.Error(e)
	}
}
