package mach_test

import (
	"math/rand"
	"regexp"
	"strconv"
	"testing"

	"minstrel/api"
	"minstrel/code"
	"minstrel/flo"
	"minstrel/lex"
	"minstrel/mach"
	"minstrel/prog"
)

// judge tells whether a cell is a machine's State by the words of P18.3 and P18.4: it goes along the cell once, and counts what it has met.
type judge struct {
	flat    [][]api.Proto // of each script
	objects []api.Cell
	met     int               // objects
	scripts int               // scripts of which functions were met
	used    int               // cells of a heap
	boxes   map[uint64]string // which variable each Box is
}

// isState is what the judge says. What isn't so is given up by panic.
func isState(c api.Cell) (is bool) {
	defer func() {
		if recover() != nil {
			is = false
		}
	}()
	_, e := code.Encode(c)
	must(e == api.OK)
	l := kids(c, 5)
	limit := num(l[0])
	must(limit >= 24 && limit <= 1<<20 && num(l[1]) <= 1<<20 && l[2].K == api.CellNumber)
	j := &judge{met: 1, boxes: map[uint64]string{}}
	for _, s := range kids(l[3], -1) {
		must(s.K == api.CellText)
		flat := functions(s.S)
		must(len(flat) > 0)
		j.flat = append(j.flat, flat)
	}
	j.objects = kids(l[4], -1)
	must(num(kids(j.objects[0], 3)[0]) == api.Table)
	for i, o := range j.objects {
		must(i < j.met)
		j.used++
		j.object(kids(o, -1), i == 0)
	}
	must(j.met == len(j.objects) && j.scripts == len(j.flat))
	return uint64(j.used) <= limit
}

func must(is bool) {
	if !is {
		panic("no State")
	}
}

// kids are the cells of a list, n of them, unless n is below 0.
func kids(c api.Cell, n int) []api.Cell {
	must(c.K == api.CellList && (n < 0 || len(c.L) == n))
	return c.L
}

func num(c api.Cell) uint64 {
	must(c.K == api.CellNumber)
	return c.N
}

func (j *judge) object(l []api.Cell, first bool) {
	switch num(l[0]) {
	case api.Table:
		must(len(l) == 3)
		j.table(kids(l[1], -1), first)
		meta := j.value(l[2])
		must(meta == api.Nil || meta == api.Table && !first)
	case api.Func:
		must(len(l) == 4)
		j.function(num(l[1]), num(l[2]), kids(l[3], -1))
	case api.Co:
		must(len(l) == 3 && (num(l[1]) == 0 || num(l[1]) == 3))
		j.used++
		runs := j.value(kids(l[2], 1)[0])
		must(runs == api.Func || runs == api.Lib)
	case api.Box:
		must(len(l) == 2)
		j.used++
		j.value(kids(l[1], 1)[0])
	default:
		must(false)
	}
}

var names = regexp.MustCompile(`^[A-Za-z_][A-Za-z0-9_]*$`)

func (j *judge) table(pairs []api.Cell, first bool) {
	must(len(pairs)%2 == 0)
	there := map[string]bool{}
	for i := 0; i < len(pairs); i += 2 {
		j.used++
		key, bytes := j.value(pairs[i]), encoded(pairs[i])
		must(key != api.Nil && !there[bytes])
		there[bytes] = true
		if key == api.Number {
			n := pairs[i].L[1].N
			must(n != 1<<63 && flo.Kind(api.Num(n)) != api.NaN)
		}
		if first {
			must(key == api.Text && names.MatchString(pairs[i].L[1].S) && !lex.Key(pairs[i].L[1].S))
		}
		must(j.value(pairs[i+1]) != api.Nil)
	}
}

func encoded(c api.Cell) string {
	b, _ := code.Encode(c)
	return string(b)
}

// value meets what a value is of, and is its kind: no Box.
func (j *judge) value(c api.Cell) uint64 {
	l := kids(c, -1)
	kind := num(l[0])
	switch kind {
	case api.Nil, api.False, api.True:
		must(len(l) == 1)
		return kind
	}
	must(len(l) == 2)
	switch kind {
	case api.Number:
		must(flo.Canon(api.Num(num(l[1]))) == api.Num(l[1].N))
	case api.Text:
		must(l[1].K == api.CellText)
	case api.Lib:
		must(num(l[1]) < 23)
	case api.Table, api.Func, api.Co:
		j.meet(kind, num(l[1]))
	default:
		must(false)
	}
	return kind
}

func (j *judge) meet(kind, n uint64) {
	must(n >= 2 && n <= uint64(len(j.objects)) && num(kids(j.objects[n-1], -1)[0]) == kind)
	must(n <= uint64(j.met)+1)
	j.met = max(j.met, int(n))
}

func (j *judge) function(script, place uint64, slots []api.Cell) {
	must(script < uint64(len(j.flat)) && script <= uint64(j.scripts))
	j.scripts = max(j.scripts, int(script)+1)
	flat := j.flat[script]
	must(place >= 1 && place < uint64(len(flat)) && len(slots) == len(flat[place].Ups))
	for i, s := range slots {
		j.used++
		l := kids(s, 2)
		must(num(l[0]) == api.Box)
		j.meet(api.Box, num(l[1]))
		is := strconv.Itoa(int(script)) + " " + home(flat, int(place), i)
		was, met := j.boxes[l[1].N]
		must(!met || was == is)
		j.boxes[l[1].N] = is
	}
}

// home is where the variable of an up lies: the function whose own it is, and the register.
func home(flat []api.Proto, place, up int) string {
	about := place - 1
	for about+len(prog.Flat(flat[about])) <= place {
		about--
	}
	u := flat[place].Ups[up]
	if u.Own {
		return strconv.Itoa(about) + " " + strconv.Itoa(u.At)
	}
	return home(flat, about, u.At)
}

// copyOf is a cell in memory of its own.
func copyOf(c api.Cell) api.Cell { return code.List(c).L[0] }

// places are all cells of a tree.
func places(c *api.Cell, l []*api.Cell) []*api.Cell {
	l = append(l, c)
	for i := range c.L {
		l = places(&c.L[i], l)
	}
	return l
}

// changed is a cell of which one part, or some more, is another one.
func changed(r *rand.Rand, c api.Cell) api.Cell {
	c = copyOf(c)
	for {
		all := places(&c, nil)
		at := all[r.Intn(len(all))]
		if r.Intn(3) == 0 {
			// Objects and what they are of are most of what there may be wrong.
			all = places(&c.L[4], nil)
			at = all[r.Intn(len(all))]
		}
		other := copyOf(*all[r.Intn(len(all))])
		switch r.Intn(12) {
		case 0:
			*at = other
		case 1:
			at.K = r.Intn(5) - 1
		default:
			spoil(r, at, other)
		}
		if r.Intn(4) > 0 || c.K != api.CellList || len(c.L) < 5 {
			return c
		}
	}
}

// spoil changes a cell as its kind goes.
func spoil(r *rand.Rand, c *api.Cell, other api.Cell) {
	switch c.K {
	case api.CellNumber:
		pick := []uint64{c.N + 1, c.N - 1, c.N + 1, c.N - 1, uint64(r.Intn(10)), other.N, 1 << 63, 0x7ff8000000000000, 0xfff8000000000001, 1<<64 - 1, 1 << 32}
		c.N = pick[r.Intn(len(pick))]
	case api.CellText:
		pick := []string{"", "x", "a", c.S + " ", c.S + "z", "f = function() end", "a b", "nil", other.S}
		c.S = pick[r.Intn(len(pick))]
	case api.CellList:
		spoilList(r, c, other)
	}
}

func spoilList(r *rand.Rand, c *api.Cell, other api.Cell) {
	n := len(c.L)
	i, k := r.Intn(n+1), r.Intn(n+1)
	switch op := r.Intn(5); {
	case op == 0 || i == n || k == n:
		c.L = append(c.L[:i:i], append([]api.Cell{other}, c.L[i:]...)...)
	case op == 1:
		c.L = append(c.L[:i:i], c.L[i+1:]...)
	case op == 2:
		c.L = append(c.L, copyOf(c.L[i]))
	default:
		c.L[i], c.L[k] = c.L[k], c.L[i]
	}
}

// states are those of some machines that were given scripts by chance.
func states(t *testing.T, r *rand.Rand, rounds int) []api.Cell {
	var l []api.Cell
	for range rounds {
		m, e := mach.New(100+r.Intn(200), 600, r.Uint64())
		if e != api.OK {
			t.Fatal(e)
		}
		if r.Intn(4) > 0 {
			// With fewer global variables that say nothing, more of what is changed says something.
			m.Exec("find = nil rep = nil char = nil byte = nil sub = nil floor = nil status = nil yield = nil getmeta = nil tonumber = nil")
		}
		for range 1 + r.Intn(14) {
			m.Exec(script(r))
		}
		l = append(l, m.State())
	}
	return l
}

// P18.4: of States that are changed by chance FromState takes just those that are States still, and goes on with these.
func TestChangedStates(t *testing.T) {
	r := rand.New(rand.NewSource(184))
	taken := 0
	for _, state := range states(t, r, 100) {
		for range 200 {
			c := changed(r, state)
			was := copyOf(c)
			want := isState(c)
			m, e := mach.FromState(c)
			if want != (e == api.OK) || !want && (m != nil || e != api.ErrForm) {
				t.Fatalf("FromState(%v) = %v, but that it is a State is %v", c, e, want)
			}
			if !code.Same(was, c) {
				t.Fatalf("FromState changed %v to %v", was, c)
			}
			if !want || code.Same(c, state) {
				continue
			}
			taken++
			if !code.Same(m.State(), c) {
				t.Fatalf("State of FromState(%v) = %v", c, m.State())
			}
			m.Exec(script(r))
			if !isState(m.State()) {
				t.Fatalf("a command behind %v: no State is %v", c, m.State())
			}
		}
	}
	if taken < 1200 {
		t.Errorf("only %d of the changed cells were States", taken)
	}
}
