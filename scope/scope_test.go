package scope_test

import (
	"fmt"
	"math/rand"
	"reflect"
	"strings"
	"testing"

	"minstrel/api"
	"minstrel/parse"
	"minstrel/scope"
)

// brief tells what was found, in the order of the nodes: name=slot of variables (* if it is shared, ! if it is a local function's), name.L0, name.U0 and name.G of names, f1[o0 u0]( .. ) of functions: parameters and ups.
func brief(n api.Node) string {
	var words []string
	var look func(n api.Node)
	look = func(n api.Node) {
		switch n.K {
		case api.Local, api.For, api.Param:
			words = append(words, fmt.Sprint(n.S, "=", n.A, strings.Repeat("*", n.B&1), strings.Repeat("!", n.B>>1)))
		case api.LocalExp:
			words = append(words, fmt.Sprint(n.S, ".L", n.A))
		case api.UpExp:
			words = append(words, fmt.Sprint(n.S, ".U", n.A))
		case api.GlobalExp:
			words = append(words, n.S+".G"+strings.Repeat("?", n.A))
		case api.NameExp:
			words = append(words, n.S+"?")
		case api.FuncExp:
			var ups []string
			for _, u := range n.Ups {
				ups = append(ups, fmt.Sprint(map[bool]string{true: "o", false: "u"}[u.Own], u.At))
			}
			words = append(words, fmt.Sprint("f", n.A, "[", strings.Join(ups, " "), "]("))
		}
		for _, part := range n.L {
			look(part)
		}
		if n.K == api.FuncExp {
			words = append(words, ")")
		}
	}
	look(n)
	return strings.Join(words, " ")
}

// mustBe: this is found of the script, and the model says so, too.
func mustBe(t *testing.T, s, want string) {
	t.Helper()
	n, at, e := scope.Script(s)
	if got := brief(n); got != want || at != 0 || e != api.OK {
		t.Errorf("%s: %d, %d\n%s, not\n%s", s, at, e, got, want)
	}
	tree, _, _ := parse.Tree(s)
	byModel, _, _ := answer(tree)
	if !alike(n, byModel) {
		t.Errorf("%s: the model: %s", s, brief(byModel))
	}
}

// alike: all fields are the same, of all nodes.
func alike(a, b api.Node) bool {
	return reflect.DeepEqual(tidy(a), tidy(b))
}

// tidy is a tree in new memory whose empty lists are nil.
func tidy(n api.Node) api.Node {
	n.Ups = append([]api.Up(nil), n.Ups...)
	var l []api.Node
	for _, part := range n.L {
		l = append(l, tidy(part))
	}
	n.L = l
	return n
}

// mustFail: Script answers this fault at the place that ^ marks, and the zero node beside it.
func mustFail(t *testing.T, marked string, e api.Errno) {
	t.Helper()
	at := strings.Index(marked, "^")
	s := strings.Replace(marked, "^", "", 1)
	n, gotAt, gotErr := scope.Script(s)
	if gotAt != at || gotErr != e || !alike(n, api.Node{}) {
		t.Errorf("%.200s: %.100s, %d, %d, not none, %d, %d", s, brief(n), gotAt, gotErr, at, e)
	}
	tree, _, parsed := parse.Tree(s)
	if parsed != api.OK {
		return
	}
	if _, wantAt, wantErr := answer(tree); wantAt != at || wantErr != e {
		t.Errorf("%.200s: the model: %d, %d", s, wantAt, wantErr)
	}
}

// mustFind: Find of a tree of parse's form answers what the model says, and leaves the tree as it was.
func mustFind(t *testing.T, n api.Node) api.Errno {
	t.Helper()
	before := tidy(n)
	want, wantAt, wantErr := answer(n)
	got, at, e := scope.Find(n)
	if at != wantAt || e != wantErr || !alike(got, want) {
		t.Fatalf("%.600s: %d, %d\n%.900s, not %d, %d\n%.900s", parse.Show(n), at, e, brief(got), wantAt, wantErr, brief(want))
	}
	if !alike(n, before) {
		t.Fatalf("%.600s: it was %.600s", parse.Show(n), parse.Show(before))
	}
	return e
}

// P12.1, P12.2: names in one block: of the same name the last one counts, from behind its Local on.
func TestOneBlock(t *testing.T) {
	mustBe(t, "", "")
	mustBe(t, "a=a", "a.G a.G")
	mustBe(t, "a=1 local a a=1", "a.G a=0 a.L0")
	mustBe(t, "local a local b local c c=a a=b", "a=0 b=1 c=2 c.L2 a.L0 a.L0 b.L1")
	mustBe(t, "local a a=1 local a a=1 local b local a=a a=1", "a=0 a.L0 a=1 a.L1 b=2 a=3 a.L1 a.L3")
	mustBe(t, "local a return a", "a=0 a.L0")
	mustBe(t, `local a a.a=a["a"] return {a=a,[a]=a,a}`, "a=0 a.L0 a.L0 a.L0 a.L0 a.L0 a.L0")
	mustBe(t, "local ab local a ab=A", "ab=0 a=1 ab.L0 A.G")
}

// P12.1: a Local's own value does not know its name, a local function's does.
func TestOwnValue(t *testing.T) {
	mustBe(t, "local a=a", "a=0 a.G")
	mustBe(t, "local a local a=a", "a=0 a=1 a.L0")
	mustBe(t, "local f=function() return f end", "f=0 f0[]( f.G )")
	mustBe(t, "local f local f=function() return f end", "f=0* f=1 f0[o0]( f.U0 )")
	mustBe(t, "local function f() return f end", "f=0*! f0[o0]( f.U0 )")
	mustBe(t, "local f local function f() return f end f()", "f=0 f=1*! f0[o1]( f.U0 ) f.L1")
	mustBe(t, "local function f() end", "f=0! f0[]( )")
	mustBe(t, "local function f(f) return f end", "f=0! f1[]( f=0 f.L0 )")
	mustBe(t, "local function f() local f=f return f end", "f=0*! f0[o0]( f=0 f.U0 f.L0 )")
	mustBe(t, "local f={function() return f end}", "f=0 f0[]( f.G )")
}

// P12.1: blocks within and behind one another: what is within counts, and its slots are free again behind it.
func TestBlocks(t *testing.T) {
	mustBe(t, "local a do local a a=1 local b end a=b", "a=0 a=1 a.L1 b=2 a.L0 b.G")
	mustBe(t, "do local a end do local b a=b end local c", "a=0 b=0 a.G b.L0 c=0")
	mustBe(t, "local x if x then local a x=a else local b x=b a=1 end a=b",
		"x=0 x.L0 a=1 x.L0 a.L1 b=1 x.L0 b.L1 a.G a.G b.G")
	mustBe(t, "if a then local a elseif a then local b a=b else b=1 end", "a.G a=0 a.G b=0 a.G b.L0 b.G")
	mustBe(t, "while a do local a a=1 end local b=a", "a.G a=0 a.L0 b=0 a.G")
	mustBe(t, "do local a do local b do local c end local d end local e end local f", "a=0 b=1 c=2 d=2 e=1 f=0")
	mustBe(t, "do a=1 local a end a=1", "a.G a=0 a.G")
}

// P12.1, P12.2: a For's name is there in its block alone.
func TestFor(t *testing.T) {
	mustBe(t, "for i=i,i,i do i=1 end i=1", "i=0 i.G i.G i.G i.L0 i.G")
	mustBe(t, "local i for i=i,i do i=1 local i i=1 end i=1", "i=0 i=1 i.L0 i.L0 i.L1 i=2 i.L2 i.L0")
	mustBe(t, "for i=1,2 do for j=i,2 do i=j end end for k=1,2 do end local l", "i=0 j=1 i.L0 i.L0 j.L1 k=0 l=0")
	mustBe(t, "for i=1,2 do f(function() return i end) end", "i=0* f.G f0[o0]( i.U0 )")
	mustBe(t, "local a for i=1,function() return i end do local b end", "a=0 i=1 f0[]( i.G ) b=2")
}

// P12.1, P12.2: parameters, in functions beside and within one another.
func TestFunctions(t *testing.T) {
	mustBe(t, "return function(a,b) return b(a) end", "f2[]( a=0 b=1 b.L1 a.L0 )")
	mustBe(t, "local x return function(a,b) local c c=a return b(x) end",
		"x=0* f2[o0]( a=0 b=1 c=2 c.L2 a.L0 b.L1 x.U0 )")
	mustBe(t, "return function(a,a) return a end", "f2[]( a=0 a=1 a.L1 )")
	mustBe(t, "local a f(function(a) a=1 end,function(b) a=b end,a)",
		"a=0* f.G f1[]( a=0 a.L0 ) f1[o0]( b=0 a.U0 b.L0 ) a.L0")
	mustBe(t, "local a return function(b) return function(c) return function(d) return {a,b,c,d,e} end end end",
		"a=0* f1[o0]( b=0* f1[u0 o0]( c=0* f1[u0 u1 o0]( d=0 a.U0 b.U1 c.U2 d.L0 e.G ) ) )")
	mustBe(t, "f(function(a) end) a=1", "f.G f1[]( a=0 ) a.G")
	mustBe(t, "do local a f(function() a=1 end) end f(function() a=1 end)",
		"a=0* f.G f0[o0]( a.U0 ) f.G f0[]( a.G )")
}

// P12.2: ups are each once, in the order in which they are met, also by functions within, and of the same name as different ones.
func TestUps(t *testing.T) {
	mustBe(t, "local a local b local c return function() return {c,a,c,a,b} end",
		"a=0* b=1* c=2* f0[o2 o0 o1]( c.U0 a.U1 c.U0 a.U1 b.U2 )")
	mustBe(t, "local a local b f(function() f(function() b=1 end) a=b end)",
		"a=0* b=1* f.G f0[o1 o0]( f.G f0[u0]( b.U0 ) a.U1 b.U0 )")
	mustBe(t, "local a local b f(function() a=1 f(function() b=a end) end)",
		"a=0* b=1* f.G f0[o0 o1]( a.U0 f.G f0[u1 u0]( b.U0 a.U1 ) )")
	mustBe(t, "local a f(function() f(function() f(function() a=1 end) end) end)",
		"a=0* f.G f0[o0]( f.G f0[u0]( f.G f0[u0]( a.U0 ) ) )")
	mustBe(t, "local a f(function() f(function() a=1 end) local a f(function() a=1 end) end)",
		"a=0* f.G f0[o0]( f.G f0[u0]( a.U0 ) a=0* f.G f0[o0]( a.U0 ) )")
	mustBe(t, "local a f(function() a=1 local a=a a=1 end)", "a=0* f.G f0[o0]( a.U0 a=0 a.U0 a.L0 )")
	mustBe(t, "return function(p) return function() return {function() return p end,p} end end",
		"f1[]( p=0* f0[o0]( f0[u0]( p.U0 ) p.U0 ) )")
	// Of one slot of one function two variables, one behind the other, are ups of two functions.
	mustBe(t, "do local a f(function() a=1 end) end do local b f(function() b=1 end) end",
		"a=0* f.G f0[o0]( a.U0 ) b=0* f.G f0[o0]( b.U0 )")
	// A variable of a function within, in the slot of an up of the one about it.
	mustBe(t, "local a return function() local b a=b return function() return a..b end end",
		"a=0* f0[o0]( b=0* a.U0 b.L0 f0[u0 o0]( a.U0 b.U1 ) )")
	mustBe(t, "local a local b return function() do local c f(function() c=b end) end do local d f(function() d=a end) end end",
		"a=0* b=1* f0[o1 o0]( c=0* f.G f0[o0 u0]( c.U0 b.U1 ) d=0* f.G f0[o0 u1]( d.U0 a.U1 ) )")
}

// P12.2: what is assigned to, and called, comes ahead of what stands behind.
func TestOrderOfText(t *testing.T) {
	head, tail := "local a local b local c local d return function() ", " end"
	for s, want := range map[string]string{
		"a=b":                      "o0 o1",
		"b[c]=a":                   "o1 o2 o0",
		"d(c,b,a)":                 "o3 o2 o1 o0",
		"return {[d]=c,b,x=a}":     "o3 o2 o1 o0",
		"return d+c*b":             "o3 o2 o1",
		"return (c or d)and(a..b)": "o2 o3 o0 o1",
		"if c then d=1 elseif b then d=1 else a=1 end": "o2 o3 o1 o0",
		"while d do a=1 end":                           "o3 o0",
		"for i=c,b,a do d=i end":                       "o2 o1 o0 o3",
		"local a=b b=a c=1":                            "o1 o2",
		"local function f() return c end d=1":          "o2 o3",
		"return not -#d[a]":                            "o3 o0",
	} {
		n, _, e := scope.Script(head + s + tail)
		if got := brief(n); e != api.OK || !strings.Contains(got, " f0["+want+"]( ") {
			t.Errorf("%s: %s, not %s", s, got, want)
		}
	}
}

// P12.2: B of each kind of variable, alone and with the mark; of two of one name the one that is named.
func TestShared(t *testing.T) {
	mustBe(t, "local a local b=function() return a end", "a=0* b=1 f0[o0]( a.U0 )")
	mustBe(t, "local function f() f() end local function g() end", "f=0*! f0[o0]( f.U0 ) g=1! f0[]( )")
	mustBe(t, "local function f() end f(function() return f end)", "f=0*! f0[]( ) f.L0 f0[o0]( f.U0 )")
	mustBe(t, "for i=1,2 do for j=1,2 do f(function() j=1 end) end end", "i=0 j=1* f.G f0[o1]( j.U0 )")
	mustBe(t, "return function(a,b) return function() return b end end", "f2[]( a=0 b=1* f0[o1]( b.U0 ) )")
	mustBe(t, "local a local a f(function() a=1 end)", "a=0 a=1* f.G f0[o1]( a.U0 )")
	mustBe(t, "local a f(function() a=1 end) local a", "a=0* f.G f0[o0]( a.U0 ) a=1")
	mustBe(t, "return function(a,a) return function() return a end end", "f2[]( a=0 a=1* f0[o1]( a.U0 ) )")
}

// P12.1, P12.2, P12.3, P12.5: trees made by chance, by the model that knows nothing of frames.
func TestMade(t *testing.T) {
	r := rand.New(rand.NewSource(12))
	ends := map[api.Errno]int{}
	for i := range 8000 {
		m := &maker{r: r, names: 1 + r.Intn(6), locals: r.Intn(7), breaks: i%3 == 0}
		ends[mustFind(t, m.block(1+r.Intn(6)))]++
	}
	if ends[api.OK] < 3000 || ends[api.ErrState] < 300 {
		t.Error(ends)
	}
}

// P12.1, P12.2, P12.3: trees made by chance whose functions have about as many variables and ups as they may.
func TestMadeNearLimits(t *testing.T) {
	r := rand.New(rand.NewSource(13))
	ends := map[api.Errno]int{}
	for range 400 {
		m := &maker{r: r, names: 20 + r.Intn(200)}
		ends[mustFind(t, m.many(2))]++
	}
	if ends[api.OK] < 50 || ends[api.ErrLong] < 50 {
		t.Error(ends)
	}
}

// P12.5, P12.6, P12.7: what they say, asked of the answer alone.
func TestWhatItComesTo(t *testing.T) {
	r := rand.New(rand.NewSource(14))
	for range 3000 {
		m := &maker{r: r, names: 1 + r.Intn(6), locals: r.Intn(7)}
		n := m.block(1 + r.Intn(6))
		found, _, e := scope.Find(n)
		if e != api.OK {
			t.Fatal(e)
		}
		sameBut(t, n, found)
		if got := brief(found); !strings.Contains(got, "[") && strings.Contains(got, "*") {
			t.Fatalf("no function, but %s", got)
		}
		wayOutward(t, found, nil)
	}
}

// sameBut: nothing is changed but kinds of names, A, B and Ups.
func sameBut(t *testing.T, n, found api.Node) {
	t.Helper()
	kind := found.K
	if kind == api.LocalExp || kind == api.UpExp || kind == api.GlobalExp {
		kind = api.NameExp
	}
	if n.K != kind || n.At != found.At || n.S != found.S || n.N != found.N || len(n.L) != len(found.L) {
		t.Fatalf("%v is %v", n, found)
	}
	for i := range n.L {
		sameBut(t, n.L[i], found.L[i])
	}
}

// about is a function on the way outward: how many variables it has, and its ups.
type about struct {
	slots int
	ups   []api.Up
}

// wayOutward: each slot is below how many variables there are, each up is found on the way outward, parameters have the first slots.
func wayOutward(t *testing.T, n api.Node, way []about) {
	t.Helper()
	if len(way) == 0 {
		way = []about{{}}
	}
	f := &way[len(way)-1]
	switch n.K {
	case api.LocalExp:
		if n.A < 0 || n.A >= f.slots {
			t.Fatalf("slot %d of %d", n.A, f.slots)
		}
	case api.UpExp:
		place, i := n.A, len(way)-1
		for ; i > 0 && place >= 0 && place < len(way[i].ups); i-- {
			up := way[i].ups[place]
			place = up.At
			if up.Own {
				break
			}
		}
		if i < 1 || place < 0 || place >= way[i-1].slots {
			t.Fatalf("%v is not found outward", n)
		}
	case api.FuncExp:
		inner := append(append([]about{}, way...), about{ups: n.Ups})
		for i, part := range n.L[:n.A] {
			if part.K != api.Param || part.A != i {
				t.Fatalf("parameter %d: %v", i, part)
			}
		}
		inner[len(inner)-1].slots = n.A
		wayOutward(t, n.L[n.A], inner)
		return
	}
	before := f.slots
	if n.K == api.Local && n.B&2 == 2 {
		f.slots++
	}
	for i, part := range n.L {
		if n.K == api.For && i == 3 {
			f.slots++
		}
		wayOutward(t, part, way)
	}
	switch {
	case n.K == api.Local && n.B&2 == 0:
		f.slots++
	case n.K == api.Block || n.K == api.For:
		f.slots = before
	}
}

// P12.4: Script is Find of parse's tree, or parse's place and error.
func TestScript(t *testing.T) {
	for _, s := range []string{
		"", "a", "a b", "local", "x = $", "f(", "return return", "local a = 1 return a", "break", "a = ", strings.Repeat("(", 101),
		strings.Repeat("x=1 ", 6000), "-- " + strings.Repeat("x", 70000), "if a then break", "local a break $", "local x break )", "\"\\q\"", "\x00\xff",
	} {
		mustScript(t, s)
	}
	r := rand.New(rand.NewSource(15))
	words := strings.Fields("local function return break do end while for if then else elseif a b a b a b f ( ) ( ) = = , 1 { } [ ] . ; not - .. and")
	for range 100000 {
		var l []string
		for range 1 + r.Intn(10) {
			l = append(l, words[r.Intn(len(words))])
		}
		mustScript(t, strings.Join(l, " "))
	}
}

// mustScript: Script is what parse and Find come to.
func mustScript(t *testing.T, s string) {
	t.Helper()
	n, at, e := scope.Script(s)
	tree, wantAt, wantErr := parse.Tree(s)
	want := api.Node{}
	if wantErr == api.OK {
		want, wantAt, wantErr = scope.Find(tree)
	}
	if at != wantAt || e != wantErr || !alike(n, want) {
		t.Errorf("%.100q: %.200s, %d, %d, not %.200s, %d, %d", s, brief(n), at, e, brief(want), wantAt, wantErr)
	}
}

// P12.4: what can't be read is told ahead of what can't be found.
func TestUnreadable(t *testing.T) {
	mustFail(t, "break a ^b", api.ErrForm)
	mustFail(t, "break ^$", api.ErrForm)
	mustFail(t, "x=^", api.ErrForm)
	mustFail(t, "break f("+strings.Repeat("1,", 30)+"^1)", api.ErrLong)
	mustFail(t, "break x="+strings.Repeat("(", 99)+"(^1", api.ErrLong)
}

// P12.1, P12.2: the chapter's example.
func TestExample(t *testing.T) {
	n, at, e := scope.Script("local a = 1 return function() return a end")
	f := n.L[1].L[0]
	if at != 0 || e != api.OK || !reflect.DeepEqual(f.Ups, []api.Up{{Own: true, At: 0}}) || n.L[0].B != 1 || n.L[0].A != 0 {
		t.Error(n, at, e)
	}
	if name := f.L[0].L[0].L[0]; name.K != api.UpExp || name.A != 0 || name.S != "a" || name.At != 37 {
		t.Error(name)
	}
	mustBe(t, "local a = 1 return function() return a end", "a=0* f0[o0]( a.U0 )")
}

// P12.3, P12.4: no call panics, whatever bytes it is given.
func TestAnyBytes(t *testing.T) {
	r := rand.New(rand.NewSource(16))
	for range 20000 {
		b := make([]byte, r.Intn(40))
		r.Read(b)
		mustScript(t, string(b))
	}
}

// Memory: what is handed in is not changed, its spare room too; no list of an answer is shared with it, or with another list.
func TestMemory(t *testing.T) {
	r := rand.New(rand.NewSource(17))
	nodes, ups := map[*api.Node]int{}, map[*api.Up]int{}
	var note func(n api.Node)
	note = func(n api.Node) {
		for i := range n.L[:cap(n.L)] {
			nodes[&n.L[:cap(n.L)][i]]++
		}
		for i := range n.Ups[:cap(n.Ups)] {
			ups[&n.Ups[:cap(n.Ups)][i]]++
		}
		for _, part := range n.L {
			note(part)
		}
	}
	for range 300 {
		m := &maker{r: r, names: 3, locals: 3}
		n := roomy(m.block(5))
		before := withRoom(n)
		first, _, _ := scope.Find(n)
		second, _, _ := scope.Find(n)
		note(n)
		note(first)
		note(second)
		if !reflect.DeepEqual(withRoom(n), before) {
			t.Fatal("what is handed in is changed")
		}
	}
	for _, times := range nodes {
		if times != 1 {
			t.Fatal("two lists of nodes share memory")
		}
	}
	for _, times := range ups {
		if times != 1 {
			t.Fatal("two lists of ups share memory")
		}
	}
}

// roomy is a tree whose lists have spare room, in which something stands.
func roomy(n api.Node) api.Node {
	l := make([]api.Node, len(n.L)+2)
	for i, part := range n.L {
		l[i] = roomy(part)
	}
	l[len(n.L)].S, l[len(n.L)+1].S = "spare", "room"
	n.L = l[:len(n.L)]
	n.Ups = []api.Up{{At: 7}, {At: 8}, {At: 9}}[:2]
	return n
}

// withRoom is a tree in new memory in which spare room is none.
func withRoom(n api.Node) api.Node {
	l := append([]api.Node{}, n.L[:cap(n.L)]...)
	for i, part := range l {
		l[i] = withRoom(part)
	}
	n.L = l
	n.Ups = append([]api.Up{}, n.Ups[:cap(n.Ups)]...)
	return n
}
