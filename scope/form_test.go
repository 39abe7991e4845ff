package scope_test

import (
	"math"
	"math/rand"
	"regexp"
	"slices"
	"strconv"
	"strings"
	"testing"

	"minstrel/api"
	"minstrel/parse"
	"minstrel/scope"
)

// shapes are, of each kind that parse gives, the kinds of its parts as a text may be; those of exps and statements by their words.
func shapes() map[int]*regexp.Regexp {
	written := map[int]string{
		api.Block: "(stat )*(Return )?", api.Local: "(exp )?", api.Assign: "(Name |Index )exp ", api.CallStat: "Call ",
		api.If: "exp Block Block ", api.While: "exp Block ", api.For: "exp exp exp Block ", api.Return: "(exp )?", api.Break: "", api.Do: "Block ",
		api.NilExp: "", api.FalseExp: "", api.TrueExp: "", api.NumExp: "", api.TextExp: "", api.NameExp: "",
		api.Index: "exp exp ", api.Call: "exp (exp )*", api.FuncExp: "(Param )*Block ", api.Param: "",
		api.Un: "exp ", api.Bin: "exp exp ", api.And: "exp exp ", api.Or: "exp exp ", api.Make: "(Item )*", api.Item: "(exp )?exp ",
	}
	words := strings.NewReplacer(
		"exp", "(Nil|False|True|Num|Text|Name|Index|Call|Func|Un|Bin|And|Or|Make)",
		"stat", "(Local|Assign|CallStat|If|While|For|Break|Do)",
	)
	all := map[int]*regexp.Regexp{}
	for k, w := range written {
		all[k] = regexp.MustCompile("^" + words.Replace(w) + "$")
	}
	return all
}

// kindNames are those of all kinds; of others there is none.
var kindNames = [...]string{
	"Block", "Local", "Assign", "CallStat", "If", "While", "For", "Return", "Break", "Do",
	"Nil", "False", "True", "Num", "Text", "Name", "LocalExp", "UpExp", "GlobalExp",
	"Index", "Call", "Func", "Param", "Un", "Bin", "And", "Or", "Make", "Item",
}

func kindName(k int) string {
	if k < 0 || k >= len(kindNames) {
		return "none"
	}
	return kindNames[k]
}

const (
	signsOfOne = " not - # "
	signsOfTwo = " < > <= >= ~= == .. + - * / % "
)

// hasForm tells whether a node has the form that parse gives, and all its parts; how deep is not asked.
func hasForm(shapes map[int]*regexp.Regexp, n api.Node) bool {
	var parts strings.Builder
	for _, part := range n.L {
		parts.WriteString(kindName(part.K) + " ")
	}
	shape := shapes[n.K]
	if shape == nil || !shape.MatchString(parts.String()) {
		return false
	}
	one, two := strings.Contains(signsOfOne, " "+n.S+" "), strings.Contains(signsOfTwo, " "+n.S+" ")
	if n.K == api.Un && !one || n.K == api.Bin && !two || n.K == api.Local && n.A == 1 && parts.String() != "Func " {
		return false
	}
	return !slices.ContainsFunc(n.L, func(part api.Node) bool { return !hasForm(shapes, part) })
}

// least is the least node of a kind that has parse's form; of kinds that parse does not give one without parts.
func least(k int) api.Node {
	empty, none, name := api.Node{K: api.Block}, api.Node{K: api.NilExp}, api.Node{K: api.NameExp, S: "a"}
	n := api.Node{K: k, At: 40 + k}
	switch k {
	case api.Assign:
		n.L = []api.Node{name, none}
	case api.CallStat:
		n.L = []api.Node{{K: api.Call, L: []api.Node{name}}}
	case api.If:
		n.L = []api.Node{none, empty, empty}
	case api.While:
		n.L = []api.Node{none, empty}
	case api.For:
		n.L = []api.Node{none, none, none, empty}
	case api.Do, api.FuncExp:
		n.L = []api.Node{empty}
	case api.Index, api.And, api.Or, api.Bin:
		n.L = []api.Node{none, none}
	case api.Call, api.Un, api.Item:
		n.L = []api.Node{none}
	}
	switch k {
	case api.Un:
		n.S = "-"
	case api.Bin:
		n.S = "-"
	case api.Local, api.For, api.NameExp, api.Param:
		n.S = "a"
	}
	return n
}

// held is a script's tree in which a node stands where one of its kind may. (All in a loop, so that a Break may be.)
func held(n api.Node) api.Node {
	block := func(l ...api.Node) api.Node { return api.Node{K: api.Block, L: l} }
	value := func(exp api.Node) api.Node { return api.Node{K: api.Return, L: []api.Node{exp}} }
	switch {
	case n.K == api.Block:
		return block(api.Node{K: api.While, L: []api.Node{{K: api.NilExp}, n}})
	case n.K == api.Param:
		return block(value(api.Node{K: api.FuncExp, L: []api.Node{n, block()}}))
	case n.K == api.Item:
		return block(value(api.Node{K: api.Make, L: []api.Node{n}}))
	case api.Local <= n.K && n.K <= api.Do:
		return held(block(n))
	}
	return block(value(n))
}

// mustForm: Find refuses a tree just if it has not parse's form.
func mustForm(t *testing.T, shapes map[int]*regexp.Regexp, n api.Node) {
	t.Helper()
	want := n.K == api.Block && hasForm(shapes, n)
	got, at, e := scope.Find(n)
	if want != (e != api.ErrArg) || e == api.ErrArg && (at != 0 || !alike(got, api.Node{})) {
		t.Fatalf("%.400s: %.100s, %d, %d, but its form: %v", parse.Show(n), brief(got), at, e, want)
	}
}

// P12.3: nodes of every kind with every kind of parts, up to three of them, and four of those of a For.
func TestEveryForm(t *testing.T) {
	shapes := shapes()
	var parts []api.Node
	for k := -1; k <= len(kindNames); k++ {
		parts = append(parts, least(k))
	}
	var with func(n api.Node, more int)
	with = func(n api.Node, more int) {
		mustForm(t, shapes, held(n))
		if more == 0 {
			return
		}
		for _, part := range parts {
			inner := n
			inner.L = append(slices.Clone(n.L), part)
			with(inner, more-1)
		}
	}
	for k := -1; k <= len(kindNames); k++ {
		n := least(k)
		n.L = nil
		with(n, map[bool]int{true: 3, false: 2}[k != api.For])
		if k == api.Local {
			n.A = 1
			with(n, 2)
		}
	}
	// Of four parts at least two as they should be.
	for _, a := range parts {
		for _, b := range parts {
			for i := range 4 {
				for j := range 4 {
					n := least(api.For)
					n.L[i], n.L[j] = a, b
					mustForm(t, shapes, held(n))
				}
			}
		}
	}
}

// P12.3: every kind with one part more than it may have, or one less.
func TestHowManyParts(t *testing.T) {
	shapes := shapes()
	for k := range len(kindNames) {
		n := least(k)
		for _, part := range []int{api.Block, api.Local, api.Return, api.NilExp, api.Param, api.Item} {
			for i := range len(n.L) + 1 {
				more := n
				more.L = slices.Insert(slices.Clone(n.L), i, least(part))
				mustForm(t, shapes, held(more))
			}
		}
		for i := range len(n.L) {
			less := n
			less.L = slices.Delete(slices.Clone(n.L), i, i+1)
			mustForm(t, shapes, held(less))
		}
	}
}

// P12.3: lists of many parts, in which one is wrong; more arguments than a script has are no matter of form.
func TestLongLists(t *testing.T) {
	shapes := shapes()
	for holder, part := range map[int]int{api.Block: api.Assign, api.Call: api.NameExp, api.Make: api.Item, api.FuncExp: api.Param} {
		for _, count := range []int{1, 2, 29, 30, 31, 32, 150} {
			n := least(holder)
			for range count {
				n.L = append([]api.Node{least(part)}, n.L...)
			}
			mustForm(t, shapes, held(n))
			if _, _, e := scope.Find(held(n)); e != api.OK {
				t.Errorf("%s with %d: %d", kindName(holder), count, e)
			}
			for k := range len(kindNames) {
				for _, at := range []int{0, count / 2, count - 1} {
					wrong := n
					wrong.L = slices.Clone(n.L)
					wrong.L[at] = least(k)
					mustForm(t, shapes, held(wrong))
				}
			}
		}
	}
}

// P12.3: a tree is a Block.
func TestWhole(t *testing.T) {
	for k := -2; k <= len(kindNames)+1; k++ {
		want := api.ErrArg
		if k == api.Block {
			want = api.OK
		}
		if _, at, e := scope.Find(least(k)); at != 0 || e != want {
			t.Errorf("%s: %d, %d", kindName(k), at, e)
		}
	}
	for _, k := range []int{math.MinInt, math.MaxInt, 1 << 32, 256} {
		if _, at, e := scope.Find(api.Node{K: k}); at != 0 || e != api.ErrArg {
			t.Errorf("%d: %d, %d", k, at, e)
		}
		if _, at, e := scope.Find(held(api.Node{K: k})); at != 0 || e != api.ErrArg {
			t.Errorf("%d: %d, %d", k, at, e)
		}
	}
}

// P12.3: every sign, and what is none; of other kinds S is no matter.
func TestSigns(t *testing.T) {
	shapes := shapes()
	signs := strings.Fields(signsOfOne + signsOfTwo + "and or = ~ . : & ! != <> // ^ nots Not -- ## ... ++ ( ) 1 a")
	for _, s := range append(signs, "", " ", "- ", " -", "\x00", "-\x00") {
		for k := range len(kindNames) {
			n := least(k)
			n.S = s
			if n.S == strings.TrimSpace(n.S) && n.S != "" {
				mustForm(t, shapes, held(n))
				continue
			}
			_, at, e := scope.Find(held(n))
			if wrong := k == api.Un || k == api.Bin || api.LocalExp <= k && k <= api.GlobalExp; wrong != (e == api.ErrArg) || at != 0 {
				t.Errorf("%s with %q: %d, %d", kindName(k), s, at, e)
			}
		}
	}
}

// P12.3: what is left of names, when they are found, is none of parse's.
func TestFoundAlready(t *testing.T) {
	for _, s := range []string{"local a a=1", "a=1", "local a f(function() return a end)", "return {x=y}"} {
		n, _, e := scope.Script(s)
		if e != api.OK {
			t.Fatal(s, e)
		}
		if _, at, e := scope.Find(n); at != 0 || e != api.ErrArg {
			t.Errorf("%s found twice: %d, %d", s, at, e)
		}
	}
}

// P12.3: the mark is that of a function; a statement behind a return is none.
func TestMarkAndReturn(t *testing.T) {
	mark := func(l ...api.Node) api.Node { return held(api.Node{K: api.Local, S: "a", A: 1, L: l}) }
	for _, n := range []api.Node{
		mark(), mark(least(api.NameExp)), mark(least(api.NilExp)), mark(least(api.FuncExp), least(api.FuncExp)), mark(least(api.Call)),
		{L: []api.Node{least(api.Return), least(api.Local)}}, {L: []api.Node{least(api.Return), least(api.Return)}},
		{L: []api.Node{least(api.Local), least(api.Return), least(api.Local)}},
	} {
		if _, at, e := scope.Find(n); at != 0 || e != api.ErrArg {
			t.Errorf("%s: %d, %d", parse.Show(n), at, e)
		}
	}
	for _, n := range []api.Node{mark(least(api.FuncExp)), {L: []api.Node{least(api.Local), least(api.Return)}}} {
		if _, at, e := scope.Find(n); at != 0 || e != api.OK {
			t.Errorf("%s: %d, %d", parse.Show(n), at, e)
		}
	}
}

// P12.3: ErrArg is told ahead of all others, wherever it is.
func TestFormFirst(t *testing.T) {
	all := make([]api.Node, 201)
	for i := range all {
		all[i] = api.Node{K: api.Local, At: i, S: "a"}
	}
	broken := api.Node{K: api.Break, At: 5}
	wrong := held(api.Node{K: api.Un, S: "+", L: []api.Node{{K: api.NilExp}}})
	for _, l := range [][]api.Node{
		{broken, {K: api.Do, L: []api.Node{wrong}}}, {{K: api.Do, L: []api.Node{wrong}}, broken},
		append(slices.Clone(all), api.Node{K: api.Do, L: []api.Node{wrong}}), append(slices.Clone(all), api.Node{K: 77}),
		{broken, {K: api.NilExp}}, {broken, {K: api.Local, S: "a", L: []api.Node{least(api.Local)}}},
	} {
		if n, at, e := scope.Find(api.Node{K: api.Block, At: 9, L: l}); at != 0 || e != api.ErrArg || !alike(n, api.Node{}) {
			t.Errorf("%.200s: %d, %d", parse.Show(api.Node{L: l}), at, e)
		}
	}
	if _, at, e := scope.Find(api.Node{K: api.Block, At: 9, L: []api.Node{broken}}); at != 5 || e != api.ErrState {
		t.Error(at, e)
	}
	if _, at, e := scope.Find(api.Node{K: api.Block, At: 9, L: all}); at != 200 || e != api.ErrLong {
		t.Error(at, e)
	}
}

// P12.3: a tree made by chance, in which somewhere a node is changed.
func TestChangedForm(t *testing.T) {
	r := rand.New(rand.NewSource(21))
	shapes := shapes()
	wrong := 0
	for range 20000 {
		m := &maker{r: r, names: 3, locals: 2}
		n := m.block(1 + r.Intn(5))
		change(r, &n)
		if !hasForm(shapes, n) {
			wrong++
		}
		mustForm(t, shapes, n)
		if n.K == api.Block && hasForm(shapes, n) {
			mustFind(t, n)
		}
	}
	if wrong < 8000 || wrong > 19000 {
		t.Error(wrong)
	}
}

// change changes a node somewhere in a tree.
func change(r *rand.Rand, n *api.Node) {
	for len(n.L) > 0 && r.Intn(6) > 0 {
		n = &n.L[r.Intn(len(n.L))]
	}
	some := r.Intn(len(n.L) + 1)
	switch r.Intn(6) {
	case 0:
		n.K = r.Intn(len(kindNames)+2) - 1
	case 1:
		n.L = slices.Insert(n.L, some, least(r.Intn(len(kindNames))))
	case 2:
		n.S = strings.Fields(signsOfOne + signsOfTwo + "and or a b")[r.Intn(19)]
	case 3:
		*n = least(r.Intn(len(kindNames)))
	default:
		if some < len(n.L) {
			n.L = slices.Delete(n.L, some, some+1)
		}
	}
}

// wraps are ways for a node to lie in others, each by how many, exps in exps.
func wraps() map[string]func(n api.Node) (api.Node, int) {
	none := api.Node{K: api.NilExp}
	empty := api.Node{K: api.Block}
	in := func(k int, s string, l ...api.Node) api.Node { return api.Node{K: k, S: s, L: l} }
	function := func(l ...api.Node) api.Node { return in(api.FuncExp, "", in(api.Block, "", l...)) }
	return map[string]func(n api.Node) (api.Node, int){
		"Un":       func(n api.Node) (api.Node, int) { return in(api.Un, "-", n), 1 },
		"left":     func(n api.Node) (api.Node, int) { return in(api.Bin, "+", n, none), 1 },
		"right":    func(n api.Node) (api.Node, int) { return in(api.Bin, "..", none, n), 1 },
		"And":      func(n api.Node) (api.Node, int) { return in(api.And, "", none, n), 1 },
		"Or":       func(n api.Node) (api.Node, int) { return in(api.Or, "", n, none), 1 },
		"table":    func(n api.Node) (api.Node, int) { return in(api.Index, "", n, none), 1 },
		"key":      func(n api.Node) (api.Node, int) { return in(api.Index, "", none, n), 1 },
		"Call":     func(n api.Node) (api.Node, int) { return in(api.Call, "", n), 1 },
		"argument": func(n api.Node) (api.Node, int) { return in(api.Call, "", none, none, n), 1 },
		"item":     func(n api.Node) (api.Node, int) { return in(api.Make, "", in(api.Item, "", n)), 2 },
		"keyed":    func(n api.Node) (api.Node, int) { return in(api.Make, "", in(api.Item, "", none, n)), 2 },
		"Return":   func(n api.Node) (api.Node, int) { return function(in(api.Return, "", n)), 3 },
		"Local":    func(n api.Node) (api.Node, int) { return function(in(api.Local, "a", n)), 3 },
		"Assign": func(n api.Node) (api.Node, int) {
			return function(in(api.Assign, "", in(api.Index, "", n, none), none)), 4
		},
		"value":    func(n api.Node) (api.Node, int) { return function(in(api.Assign, "", in(api.NameExp, "a"), n)), 3 },
		"CallStat": func(n api.Node) (api.Node, int) { return function(in(api.CallStat, "", in(api.Call, "", n))), 4 },
		"If":       func(n api.Node) (api.Node, int) { return function(in(api.If, "", n, empty, empty)), 3 },
		"While":    func(n api.Node) (api.Node, int) { return function(in(api.While, "", n, empty)), 3 },
		"For":      func(n api.Node) (api.Node, int) { return function(in(api.For, "a", none, none, n, empty)), 3 },
		"Do": func(n api.Node) (api.Node, int) {
			return function(in(api.Do, "", in(api.Block, "", in(api.Return, "", n)))), 5
		},
		"else": func(n api.Node) (api.Node, int) {
			return function(in(api.If, "", none, empty, in(api.Block, "", in(api.Return, "", n)))), 5
		},
	}
}

// deep is a tree with so many nodes in one another; of other ways than Un as many as may be.
func deep(wrap func(n api.Node) (api.Node, int), count int) api.Node {
	un := wraps()["Un"]
	n, left := api.Node{K: api.NameExp, S: "a"}, count-3
	for left > 0 {
		next, took := wrap(n)
		if took > left {
			next, took = un(n)
		}
		n, left = next, left-took
	}
	return api.Node{K: api.Block, L: []api.Node{{K: api.Return, L: []api.Node{n}}}}
}

// P12.3: 32768 nodes in one another may be, one more may not, whatever they are.
func TestTooDeep(t *testing.T) {
	for name, wrap := range wraps() {
		for count, want := range map[int]api.Errno{1000: api.OK, 32767: api.OK, 32768: api.OK, 32769: api.ErrArg, 32770: api.ErrArg, 40000: api.ErrArg} {
			n, at, e := scope.Find(deep(wrap, count))
			if e != want || at != 0 || e == api.OK && !strings.HasSuffix(last(n), ".G") {
				t.Errorf("%s, %d in one another: %d, %d, %s", name, count, at, e, last(n))
			}
		}
	}
	blocks := func(count int) api.Node {
		n := api.Node{K: api.Block}
		for range (count - 1) / 2 {
			n = api.Node{K: api.Block, L: []api.Node{{K: api.Do, L: []api.Node{n}}}}
		}
		return n
	}
	if _, at, e := scope.Find(blocks(32767)); at != 0 || e != api.OK {
		t.Error(at, e)
	}
	if _, at, e := scope.Find(blocks(32769)); at != 0 || e != api.ErrArg {
		t.Error(at, e)
	}
}

// last is the innermost node's brief.
func last(n api.Node) string {
	for {
		deeper := slices.IndexFunc(n.L, func(part api.Node) bool { return len(part.L) > 0 })
		if deeper < 0 {
			break
		}
		n = n.L[deeper]
	}
	words := strings.Fields(brief(n))
	return words[len(words)-1]
}

// P12.3: what is too deep is told ahead of what stands ahead of it; what lies beside one another adds up to nothing.
func TestDeepBeside(t *testing.T) {
	wrap := wraps()["argument"]
	n := deep(wrap, 32767)
	two := api.Node{K: api.Block, L: []api.Node{{K: api.Do, L: []api.Node{deep(wrap, 32766)}}, n.L[0]}}
	if _, at, e := scope.Find(two); at != 0 || e != api.OK {
		t.Error(at, e)
	}
	n = api.Node{K: api.Block, L: []api.Node{{K: api.Break, At: 4}, {K: api.Do, L: []api.Node{deep(wrap, 32767)}}}}
	if _, at, e := scope.Find(n); at != 0 || e != api.ErrArg {
		t.Error(at, e)
	}
	n.L[1].L[0] = deep(wrap, 32766)
	if _, at, e := scope.Find(n); at != 4 || e != api.ErrState {
		t.Error(at, e)
	}
}

// P12.3: a list of nodes that lies in itself is too deep.
func TestInItself(t *testing.T) {
	for k := range len(kindNames) {
		l := []api.Node{{K: k, S: "-"}, {K: k, S: "-"}}
		l[0].L, l[1].L = l, l
		if _, at, e := scope.Find(held(l[0])); at != 0 || e != api.ErrArg {
			t.Errorf("%s: %d, %d", kindName(k), at, e)
		}
	}
	stats, blocks := []api.Node{{K: api.Do}, {K: api.Do}}, []api.Node{{K: api.Block, L: nil}}
	stats[0].L, stats[1].L, blocks[0].L = blocks, blocks, stats
	if _, at, e := scope.Find(blocks[0]); at != 0 || e != api.ErrArg {
		t.Error(at, e)
	}
}

// P12.3: no call panics, whatever tree it is given.
func TestAnyTree(t *testing.T) {
	r := rand.New(rand.NewSource(22))
	shapes := shapes()
	var any func(room int) api.Node
	any = func(room int) api.Node {
		n := api.Node{K: r.Intn(len(kindNames)+4) - 2, At: r.Intn(100) - 50, S: strconv.Itoa(r.Intn(3)), A: r.Intn(4) - 1, B: r.Intn(5) - 1}
		if r.Intn(3) == 0 {
			n = least(r.Intn(len(kindNames)))
		}
		n.Ups = make([]api.Up, r.Intn(3))
		for range r.Intn(5) {
			if room > 0 {
				n.L = append(n.L, any(room-1))
			}
		}
		return n
	}
	for range 50000 {
		n := any(3)
		mustForm(t, shapes, n)
		n.K = api.Block
		mustForm(t, shapes, n)
	}
}
