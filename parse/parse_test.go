package parse_test

import (
	"fmt"
	"math"
	"math/rand"
	"slices"
	"strings"
	"testing"

	"minstrel/api"
	"minstrel/lex"
	"minstrel/parse"
)

var kindNames = [...]string{
	"Block", "Local", "Assign", "CallStat", "If", "While", "For", "Return", "Break", "Do",
	"Nil", "False", "True", "Num", "Text", "Name", "LocalExp", "UpExp", "GlobalExp",
	"Index", "Call", "Func", "Param", "Un", "Bin", "And", "Or", "Make", "Item",
}

// told is a tree with all that it has: kind and place, :text, =number, !A, then its parts.
func told(n api.Node) string {
	var b strings.Builder
	tell(&b, n)
	return b.String()
}

func tell(b *strings.Builder, n api.Node) {
	fmt.Fprintf(b, "%s@%d", kindNames[n.K], n.At)
	if n.S != "" {
		fmt.Fprintf(b, ":%s", n.S)
	}
	if n.K == api.NumExp || n.N != 0 {
		fmt.Fprintf(b, "=%v", math.Float64frombits(uint64(n.N)))
	}
	if n.A != 0 {
		fmt.Fprintf(b, "!%d", n.A)
	}
	if n.B != 0 || len(n.Ups) > 0 {
		fmt.Fprintf(b, "?%d,%v", n.B, n.Ups)
	}
	if len(n.L) == 0 {
		return
	}
	b.WriteString("(")
	for i, part := range n.L {
		if i > 0 {
			b.WriteString(" ")
		}
		tell(b, part)
	}
	b.WriteString(")")
}

// mustTree is the tree of a script that can be read.
func mustTree(t *testing.T, s string) api.Node {
	t.Helper()
	n, at, e := parse.Tree(s)
	if at != 0 || e != api.OK {
		t.Fatalf("Tree(%.300q): %d, %d: %.60q", s, at, e, s[min(at, len(s)):])
	}
	return n
}

// mustTell: the script's tree is this one, with its places.
func mustTell(t *testing.T, s, want string) {
	t.Helper()
	n, at, e := parse.Tree(s)
	if got := told(n); got != want || at != 0 || e != api.OK {
		t.Errorf("Tree(%.300q): %d, %d\n%.600s, not\n%.600s", s, at, e, got, want)
	}
}

// mustSame: both scripts' trees are the same, but for places.
func mustSame(t *testing.T, a, b string) {
	t.Helper()
	if x, y := mustTree(t, a), mustTree(t, b); !parse.Same(x, y) || parse.Show(x) != parse.Show(y) {
		t.Errorf("%.300q: %.600s, %.300q: %.600s", a, parse.Show(x), b, parse.Show(y))
	}
}

// mustDiffer: the scripts' trees are not the same.
func mustDiffer(t *testing.T, a, b string) {
	t.Helper()
	if x, y := mustTree(t, a), mustTree(t, b); parse.Same(x, y) || parse.Show(x) == parse.Show(y) {
		t.Errorf("%q and %q: %s", a, b, parse.Show(x))
	}
}

// mustFail: Tree answers this fault, and the zero node beside it.
func mustFail(t *testing.T, s string, at int, e api.Errno) {
	t.Helper()
	n, gotAt, gotErr := parse.Tree(s)
	if told(n) != "Block@0" || gotAt != at || gotErr != e {
		t.Errorf("Tree(%.120q): %.100s, %d, %d, not none, %d, %d", s, told(n), gotAt, gotErr, at, e)
	}
}

// mustFault: the script, in which ^ marks the place, is at fault there, and the grammar says so, too.
func mustFault(t *testing.T, g grammar, marked string) {
	t.Helper()
	s := strings.Replace(marked, "^", "", 1)
	mustFail(t, s, strings.Index(marked, "^"), api.ErrForm)
	if at, e := answerByGrammar(g, s); at != strings.Index(marked, "^") || e != api.ErrForm {
		t.Errorf("the grammar of %q: %d, %d", s, at, e)
	}
}

// mustAsGrammar: Tree answers a fault just where the grammar does, and of the same sort.
func mustAsGrammar(t *testing.T, g grammar, s string) {
	t.Helper()
	wantAt, wantErr := answerByGrammar(g, s)
	n, at, e := parse.Tree(s)
	if at != wantAt || e != wantErr || e != api.OK && told(n) != "Block@0" {
		t.Fatalf("Tree(%.300q): %.200s, %d, %d, not %d, %d", s, told(n), at, e, wantAt, wantErr)
	}
}

// P11.1, P11.2: the parts of a block, there and left out.
func TestBlocks(t *testing.T) {
	mustTell(t, "", "Block@0")
	mustTell(t, "  \n", "Block@3")
	mustTell(t, " -- c", "Block@5")
	mustTell(t, " break", "Block@1(Break@1)")
	mustTell(t, "break;", "Block@0(Break@0)")
	mustTell(t, "break break", "Block@0(Break@0 Break@6)")
	mustTell(t, "break;break;", "Block@0(Break@0 Break@6)")
	mustTell(t, "return", "Block@0(Return@0)")
	mustTell(t, "return;", "Block@0(Return@0)")
	mustTell(t, "return a", "Block@0(Return@0(Name@7:a))")
	mustTell(t, " return a;", "Block@1(Return@1(Name@8:a))")
	mustTell(t, "break return", "Block@0(Break@0 Return@6)")
	mustTell(t, "break;return nil;", "Block@0(Break@0 Return@6(Nil@13))")
	mustTell(t, "do return end break", "Block@0(Do@0(Block@3(Return@3)) Break@14)")
	mustTell(t, "local a (b)()", "Block@0(Local@0:a CallStat@8(Call@11(Name@9:b)))")
	mustTell(t, "x=1(b)()", "Block@0(Assign@0(Name@0:x Num@2=1) CallStat@3(Call@6(Name@4:b)))")
	mustTell(t, "x={}(b)=1", "Block@0(Assign@0(Name@0:x Make@2) Assign@4(Name@5:b Num@8=1))")
	mustTell(t, "x=a(b)y=c", "Block@0(Assign@0(Name@0:x Call@3(Name@2:a Name@4:b)) Assign@6(Name@6:y Name@8:c))")
	mustTell(t, "f()\n(b)()", "Block@0(CallStat@0(Call@7(Call@4(Call@1(Name@0:f) Name@5:b))))")
	mustTell(t, "f();(b)()", "Block@0(CallStat@0(Call@1(Name@0:f)) CallStat@4(Call@7(Name@5:b)))")
}

// P11.1, P11.2: statements, each part there and left out.
func TestStats(t *testing.T) {
	mustTell(t, "local a", "Block@0(Local@0:a)")
	mustTell(t, "local a=b", "Block@0(Local@0:a(Name@8:b))")
	mustTell(t, "local function f() end", "Block@0(Local@0:f!1(Func@16(Block@19)))")
	mustTell(t, "local function f(p,q) break end", "Block@0(Local@0:f!1(Func@16(Param@17:p Param@19:q Block@22(Break@22))))")
	mustTell(t, "local f=function() end", "Block@0(Local@0:f(Func@8(Block@19)))")
	mustTell(t, "if a then end", "Block@0(If@0(Name@3:a Block@10 Block@10))")
	mustTell(t, "if a then break end", "Block@0(If@0(Name@3:a Block@10(Break@10) Block@16))")
	mustTell(t, "if a then else end", "Block@0(If@0(Name@3:a Block@10 Block@15))")
	mustTell(t, "if a then break else return end", "Block@0(If@0(Name@3:a Block@10(Break@10) Block@21(Return@21)))")
	mustTell(t, "if a then elseif b then end", "Block@0(If@0(Name@3:a Block@10 Block@10(If@10(Name@17:b Block@24 Block@24))))")
	mustTell(t, "if a then break elseif b then return end", "Block@0(If@0(Name@3:a Block@10(Break@10) Block@16(If@16(Name@23:b Block@30(Return@30) Block@37))))")
	mustTell(t, "if a then elseif b then elseif c then else end", "Block@0(If@0(Name@3:a Block@10 Block@10(If@10(Name@17:b Block@24 Block@24(If@24(Name@31:c Block@38 Block@43))))))")
	mustTell(t, "if a then if b then end else break end", "Block@0(If@0(Name@3:a Block@10(If@10(Name@13:b Block@20 Block@20)) Block@29(Break@29)))")
	mustTell(t, "while a do end", "Block@0(While@0(Name@6:a Block@11))")
	mustTell(t, "while a do break end", "Block@0(While@0(Name@6:a Block@11(Break@11)))")
	mustTell(t, "for i=a,b do end", "Block@0(For@0:i(Name@6:a Name@8:b Num@10=1 Block@13))")
	mustTell(t, "for i=a,b,c do break end", "Block@0(For@0:i(Name@6:a Name@8:b Name@10:c Block@15(Break@15)))")
	mustTell(t, "for i=a,b,1 do end", "Block@0(For@0:i(Name@6:a Name@8:b Num@10=1 Block@15))")
	mustTell(t, "do end", "Block@0(Do@0(Block@3))")
	mustTell(t, "do break end", "Block@0(Do@0(Block@3(Break@3)))")
	mustTell(t, "do do end end", "Block@0(Do@0(Block@3(Do@3(Block@6))))")
	mustTell(t, "a=b", "Block@0(Assign@0(Name@0:a Name@2:b))")
	mustTell(t, "a.b=c", "Block@0(Assign@0(Index@1(Name@0:a Text@2:b) Name@4:c))")
	mustTell(t, "a[b]=c", "Block@0(Assign@0(Index@1(Name@0:a Name@2:b) Name@5:c))")
	mustTell(t, "a().b=c", "Block@0(Assign@0(Index@3(Call@1(Name@0:a) Text@4:b) Name@6:c))")
	mustTell(t, "a()", "Block@0(CallStat@0(Call@1(Name@0:a)))")
	mustTell(t, "a.b(c)", "Block@0(CallStat@0(Call@3(Index@1(Name@0:a Text@2:b) Name@4:c)))")
}

// P11.1, P11.2, P11.3: what may be assigned to, and what is a call, in brackets too, and what isn't.
func TestTargets(t *testing.T) {
	mustTell(t, "(a)=b", "Block@0(Assign@0(Name@1:a Name@4:b))")
	mustTell(t, "((a))=b", "Block@0(Assign@0(Name@2:a Name@6:b))")
	mustTell(t, "(a.b)=c", "Block@0(Assign@0(Index@2(Name@1:a Text@3:b) Name@6:c))")
	mustTell(t, "(a[b])=c", "Block@0(Assign@0(Index@2(Name@1:a Name@3:b) Name@7:c))")
	mustTell(t, "(a).b=c", "Block@0(Assign@0(Index@3(Name@1:a Text@4:b) Name@6:c))")
	mustTell(t, `("s").b=c`, "Block@0(Assign@0(Index@5(Text@1:s Text@6:b) Name@8:c))")
	mustTell(t, "(a+b)[c]=d", "Block@0(Assign@0(Index@5(Bin@2:+(Name@1:a Name@3:b) Name@6:c) Name@9:d))")
	mustTell(t, "(f())", "Block@0(CallStat@0(Call@2(Name@1:f)))")
	mustTell(t, "(f)()", "Block@0(CallStat@0(Call@3(Name@1:f)))")
	mustTell(t, "(nil)()", "Block@0(CallStat@0(Call@5(Nil@1)))")
	mustTell(t, "(function() end)()", "Block@0(CallStat@0(Call@16(Func@1(Block@12))))")
	g := readGrammar()
	for _, s := range []string{
		"f()^=1", "(f())^=1", "a.b()^=1", "a[b](c)^=1", "(1)^=1", "(nil)^=1", `("a")^=1`, "(a+b)^=1", "(-a)^=1", "(a and b)^=1", "({})^=1", "(function() end)^=1", "x=f(a)^=1",
		"a^", "a.b^", "a[b]^", "(a)^", "(1)^", "(a+b)^", "(a or b)^", "a^;", "a.b^;", "(a)^;", "(1)^;", "a ^b=1", "a.b ^c()", "(a) ^b()", "(1) ^b()", "a^,b=1", "a^+1", "a^==b", "f()^+1", "a.b^..c", "(a+b)^+c", "do a ^end", "do (1) ^end", "if a then b ^else end",
		"^1", "^1=a", "^nil", "^nil=1", `^"a"`, `^"a"()`, "^{}", "^{}.a=1", "^-a", "^not a", "^#a", "^function f() end", "^and", "^=", "^[a]=1", "^.a=1",
	} {
		mustFault(t, g, s)
	}
}

// P11.1, P11.2: simple exps, functions and tables.
func TestSimple(t *testing.T) {
	for s, want := range map[string]string{
		"nil": "Nil@7", "false": "False@7", "true": "True@7", "2.5": "Num@7=2.5", "0": "Num@7=0", "1e999": "Num@7=+Inf",
		`"a\n"`: "Text@7:a\n", `""`: "Text@7", `"end"`: "Text@7:end", "a": "Name@7:a",
		"function() end":               "Func@7(Block@18)",
		"function(p) end":              "Func@7(Param@16:p Block@19)",
		"function(p,p) return p end":   "Func@7(Param@16:p Param@18:p Block@21(Return@21(Name@28:p)))",
		"function() end..a":            "Bin@21:..(Func@7(Block@18) Name@23:a)",
		"{}":                           "Make@7",
		"{a}":                          "Make@7(Item@8(Name@8:a))",
		"{a,}":                         "Make@7(Item@8(Name@8:a))",
		"{a;}":                         "Make@7(Item@8(Name@8:a))",
		"{a,b;c}":                      "Make@7(Item@8(Name@8:a) Item@10(Name@10:b) Item@12(Name@12:c))",
		"{a=b}":                        "Make@7(Item@8(Text@8:a Name@10:b))",
		"{[a]=b}":                      "Make@7(Item@8(Name@9:a Name@12:b))",
		"{[a]=b;c=d,e}":                "Make@7(Item@8(Name@9:a Name@12:b) Item@14(Text@14:c Name@16:d) Item@18(Name@18:e))",
		"{a==b}":                       "Make@7(Item@8(Bin@9:==(Name@8:a Name@11:b)))",
		"{a.b}":                        "Make@7(Item@8(Index@9(Name@8:a Text@10:b)))",
		"{(a)}":                        "Make@7(Item@8(Name@9:a))",
		"{(a)+b}":                      "Make@7(Item@8(Bin@11:+(Name@9:a Name@12:b)))",
		"{{}}":                         "Make@7(Item@8(Make@8))",
		"{a={b=c}}":                    "Make@7(Item@8(Text@8:a Make@10(Item@11(Text@11:b Name@13:c))))",
		"{[1]=2}":                      "Make@7(Item@8(Num@9=1 Num@12=2))",
		`{"a"}`:                        "Make@7(Item@8(Text@8:a))",
		"{function() end}":             "Make@7(Item@8(Func@8(Block@19)))",
		"{[{}]={}}":                    "Make@7(Item@8(Make@9 Make@13))",
		"{- a}":                        "Make@7(Item@8(Un@8:-(Name@10:a)))",
		"{f()}":                        "Make@7(Item@8(Call@9(Name@8:f)))",
		"function(a,b,c) break end":    "Func@7(Param@16:a Param@18:b Param@20:c Block@23(Break@23))",
		"function() return end":        "Func@7(Block@18(Return@18))",
		"function() (f)() end":         "Func@7(Block@18(CallStat@18(Call@21(Name@19:f))))",
		"function() return{} end":      "Func@7(Block@18(Return@18(Make@24)))",
		"function()local a=1;end":      "Func@7(Block@17(Local@17:a(Num@25=1)))",
		"function(a) a=nil return end": "Func@7(Param@16:a Block@19(Assign@19(Name@19:a Nil@21) Return@25))",
	} {
		mustTell(t, "return "+s, "Block@0(Return@0("+want+"))")
	}
}

// P11.1, P11.2: what stands behind a name or brackets.
func TestSuffixed(t *testing.T) {
	for s, want := range map[string]string{
		"(a)":              "Name@8:a",
		"((a))":            "Name@9:a",
		"(1)":              "Num@8=1",
		"(a)(b)":           "Call@10(Name@8:a Name@11:b)",
		"a.b":              "Index@8(Name@7:a Text@9:b)",
		"a . b":            "Index@9(Name@7:a Text@11:b)",
		"a[b]":             "Index@8(Name@7:a Name@9:b)",
		`a["b"]`:           "Index@8(Name@7:a Text@9:b)",
		"a()":              "Call@8(Name@7:a)",
		"a(b)":             "Call@8(Name@7:a Name@9:b)",
		"a(b,c,1)":         "Call@8(Name@7:a Name@9:b Name@11:c Num@13=1)",
		"a((b))":           "Call@8(Name@7:a Name@10:b)",
		"a.b.c":            "Index@10(Index@8(Name@7:a Text@9:b) Text@11:c)",
		"a[b][c]":          "Index@11(Index@8(Name@7:a Name@9:b) Name@12:c)",
		"a()()":            "Call@10(Call@8(Name@7:a))",
		"a.b[c](d)":        "Call@13(Index@10(Index@8(Name@7:a Text@9:b) Name@11:c) Name@14:d)",
		"a(b).c":           "Index@11(Call@8(Name@7:a Name@9:b) Text@12:c)",
		"a[b[c]]":          "Index@8(Name@7:a Index@10(Name@9:b Name@11:c))",
		"(a+b).c":          "Index@12(Bin@9:+(Name@8:a Name@10:b) Text@13:c)",
		"({}).c":           "Index@11(Make@8 Text@12:c)",
		`("x")[1]`:         "Index@12(Text@8:x Num@13=1)",
		"-a.b":             "Un@7:-(Index@9(Name@8:a Text@10:b))",
		"(-a).b":           "Index@11(Un@8:-(Name@9:a) Text@12:b)",
		"a.b+c()":          "Bin@10:+(Index@8(Name@7:a Text@9:b) Call@12(Name@11:c))",
		"#a[1]":            "Un@7:#(Index@9(Name@8:a Num@10=1))",
		"not a()":          "Un@7:not(Call@12(Name@11:a))",
		"f(g(h))":          "Call@8(Name@7:f Call@10(Name@9:g Name@11:h))",
		"f{}":              "",
		`f"a"`:             "",
		"{}.a":             "",
		"1.a":              "",
		`"a".b`:            "",
		"nil()":            "",
		"{}[1]":            "",
		"a.b.":             "",
		"a.end":            "",
		"function() end.a": "",
	} {
		if want == "" {
			mustAsGrammar(t, readGrammar(), "return "+s)
			if _, _, e := parse.Tree("return " + s); e != api.ErrForm {
				t.Errorf("return %s: %d", s, e)
			}
			continue
		}
		mustTell(t, "return "+s, "Block@0(Return@0("+want+"))")
	}
}

// rankOf is how tightly a sign binds, by the order of the chapter.
func rankOf(sign string) int {
	return slices.IndexFunc(ranks, func(l []string) bool { return slices.Contains(l, sign) })
}

// P11.1, P11.2: the node of every sign, and where it is.
func TestSigns(t *testing.T) {
	for _, sign := range slices.Concat(ranks...) {
		kind, says := "Bin", ":"+sign
		switch sign {
		case "and":
			kind, says = "And", ""
		case "or":
			kind, says = "Or", ""
		}
		mustTell(t, "x=aa "+sign+" b", fmt.Sprintf("Block@0(Assign@0(Name@0:x %s@5%s(Name@2:aa Name@%d:b)))", kind, says, 6+len(sign)))
		mustTell(t, "x=(aa "+sign+" (b))", fmt.Sprintf("Block@0(Assign@0(Name@0:x %s@6%s(Name@3:aa Name@%d:b)))", kind, says, 8+len(sign)))
	}
	for _, sign := range []string{"not", "-", "#"} {
		mustTell(t, "x= "+sign+" a", fmt.Sprintf("Block@0(Assign@0(Name@0:x Un@3:%s(Name@%d:a)))", sign, 4+len(sign)))
		mustTell(t, "x=( "+sign+" a)", fmt.Sprintf("Block@0(Assign@0(Name@0:x Un@4:%s(Name@%d:a)))", sign, 5+len(sign)))
	}
}

// P11.1: which of every two signs binds more tightly, and to which side like ones group.
func TestEveryTwoSigns(t *testing.T) {
	all := slices.Concat(ranks...)
	if len(all) != 14 {
		t.Fatalf("%d signs", len(all))
	}
	for _, p := range all {
		for _, q := range all {
			s := "x=a " + p + " b " + q + " c"
			left := "x=(a " + p + " b) " + q + " c"
			right := "x=a " + p + " (b " + q + " c)"
			if rankOf(p) > rankOf(q) || rankOf(p) == rankOf(q) && p != ".." {
				mustSame(t, s, left)
				mustDiffer(t, s, right)
			} else {
				mustSame(t, s, right)
				mustDiffer(t, s, left)
			}
		}
		for _, u := range []string{"not", "-", "#"} {
			mustSame(t, "x="+u+" a "+p+" b", "x=("+u+" a) "+p+" b")
			mustDiffer(t, "x="+u+" a "+p+" b", "x="+u+" (a "+p+" b)")
			mustSame(t, "x=a "+p+" "+u+" b", "x=a "+p+" ("+u+" b)")
			mustSame(t, "x=a "+p+" "+u+" b "+p+" c", "x=a "+p+" ("+u+" b) "+p+" c")
		}
	}
	for _, u := range []string{"not", "-", "#"} {
		for _, v := range []string{"not", "-", "#"} {
			mustSame(t, "x="+u+" "+v+" a", "x="+u+"("+v+"(a))")
			mustSame(t, "x="+u+" "+v+" a.b", "x="+u+"("+v+"(a.b))")
		}
		mustSame(t, "x="+u+" a.b[c](d)", "x="+u+" (a.b[c](d))")
	}
}

// P11.1: every three signs, the loosest of which is done last.
func TestEveryThreeSigns(t *testing.T) {
	all := slices.Concat(ranks...)
	// whole brackets operands wholly, at the loosest sign: of like ones at the last, of .. at the first.
	var whole func(operands, signs []string) string
	whole = func(operands, signs []string) string {
		if len(signs) == 0 {
			return operands[0]
		}
		at := 0
		for i, s := range signs {
			if r := rankOf(s); r < rankOf(signs[at]) || r == rankOf(signs[at]) && s != ".." {
				at = i
			}
		}
		return "(" + whole(operands[:at+1], signs[:at]) + " " + signs[at] + " " + whole(operands[at+1:], signs[at+1:]) + ")"
	}
	operands := []string{"a", "b", "c", "d"}
	for _, p := range all {
		for _, q := range all {
			for _, r := range all {
				mustSame(t, "return a "+p+" b "+q+" c "+r+" d", "return "+whole(operands, []string{p, q, r}))
			}
		}
	}
}

// P11.3: faults of each rule of the grammar: the place is marked.
func TestFaults(t *testing.T) {
	g := readGrammar()
	for _, s := range []string{
		// block
		"^;", "break;^;", "break ^)", "^end", "^else", "^elseif", "^then", "do end ^then", "break ^end", "^}", "^]", "^,", "^..",
		"return ^return", "return;^;", "return ^break", "return 1 ^x", "return 1 ^2", "return;^x", "return 1;^return", "return ^end", "return ^=", "return a^=1", "return a^,b", "return f() ^g()", "return ^local a", "do return ^break end", "do return 1 ^x() end", "return ^]", "return {} ^(a)()",
		// local
		"local^", "local ^1", "local ^=", "local ^(", "local ^end", "local ^local", "local ^\"a\"", "local a=^", "local a= ^=", "local a = ^end", "local a^,b", "local a^.b=1", "local a ^1", "local a^[1]=2", "local a^==b",
		"local function^", "local function ^1", "local function ^(", "local function ^end", "local function f^", "local function f ^a", "local function f^.g() end", "local function f^=1", "local function f(^", "local function f() ^", "local function f() ^else",
		// if
		"if^", "if ^then", "if ^end", "if ^=", "if a^", "if a ^b", "if a ^do", "if a ^end", "if a^=b then", "if a then^", "if a then ^then", "if a then break ^", "if a then ^)", "if a then ^]", "if a then ^1",
		"if a then elseif^", "if a then elseif ^then", "if a then elseif b^", "if a then elseif b ^else", "if a then elseif b then^", "if a then elseif b then ^)", "if a then else^", "if a then else ^else", "if a then else ^elseif b", "if a then else break ^", "if a then else break ^elseif", "if a then else ^)", "if a then return 1 ^2", "if a then return 1 else return 2 ^else",
		// while
		"while^", "while ^do", "while ^=", "while a^", "while a ^then", "while a ^end", "while a ^b", "while a do^", "while a do ^else", "while a do ^elseif", "while a do break ^", "while a do ^)",
		// for
		"for^", "for ^1", "for ^=", "for i^", "for i ^in", "for i^,", "for i^.j", "for i=^", "for i=^,", "for i=a^", "for i=a ^do", "for i=a ^b", "for i=a^;", "for i=a,^", "for i=a,^do", "for i=a,b^", "for i=a,b ^end", "for i=a,b ^then", "for i=a,b,^", "for i=a,b,^do", "for i=a,b,c^", "for i=a,b,c^,d do", "for i=a,b,c ^end", "for i=a,b do^", "for i=a,b do ^else", "for i=a,b do ^,", "for ^(i)=a,b do end",
		// do and break
		"do^", "do ^else", "do ^)", "do ^then", "do break ^", "do end ^end", "break ^1", "break ^else",
		// assignment
		"x=^", "x= ^=", "x=^end", "x=^)", "x = 1 ^2", "x=1^=2", "x=a ^=1", "x=^local", "x=a b^", "x=^then", "x=^;", "x=nil ^nil", "x=1^.a", "x={}^[1]=2", "x=\"a\"^.b=1",
		// body
		"x=function^", "x=function ^f() end", "x=function ^end", "x=function(^", "x=function(^1) end", "x=function(^,a) end", "x=function(a^", "x=function(a ^b) end", "x=function(a^;b) end", "x=function(a,^", "x=function(a,^) end", "x=function(a,^1) end", "x=function(a^.b) end", "x=function(^(a)) end", "x=function(a^=1) end", "x=function()^", "x=function() ^else end", "x=function() return 1 ^2 end", "x=function() break^",
		// exps
		"x=a+^", "x=a+^+", "x=a-^*b", "x=a*^", "x=a and^", "x=a and ^or b", "x=a or ^and b", "x=a or^", "x=a<^", "x=a<^>b", "x=a..^", "x=a..^..b", "x=a==^", "x=a ~=^", "x=not^", "x=not ^and a", "x=-^", "x=-^)", "x=#^", "x=#^=", "x=a ^not b", "x=a ^#b", "x=^*a", "x=^and a", "x=^or", "x=^..a", "x=^<a", "x=a ^nil", "x=a+1 ^2", "x=not a ^not b", "x=a+^local", "x=-^end",
		// suffixed
		"x=(^", "x=(^)", "x=(a^", "x=(a ^b)", "x=(a^,b)", "x=(a^]", "x=(a^=1)", "x=(a^;)", "x=a[^", "x=a[^]", "x=a[b^", "x=a[b^)", "x=a[b^,c]", "x=a[b^=c]", "x=a.^", "x=a.^(b)", "x=a.^end", "x=a.^\"b\"", "x=a.^[b]", "x=a.^[", "x=a(^", "x=a(^,", "x=a(b^", "x=a(b ^c)", "x=a(b^;c)", "x=a(b,^", "x=a(b,^)", "x=a(b,^,c)", "x=a(b^]", "x=a(b^=1)", "x=a(^=1)", "x=a(^end)", "f(^", "f(a^", "f(a,^)", "f.^(a)", "f[^]", "(^", "(^)", "(a^",
		// tables
		"x={^", "x={^,}", "x={^;}", "x={a^", "x={a ^b}", "x={a,^", "x={a,^,}", "x={a;^;}", "x={a,^;b}", "x={a=^", "x={a=^}", "x={a=^,b}", "x={a=b^=c}", "x={a=b ^c}", "x={[^", "x={[^]=1}", "x={[a^", "x={[a^=1}", "x={[a]^", "x={[a]^}", "x={[a] ^1}", "x={[a]^,b}", "x={[a]=^", "x={[a]=^}", "x={[a]=b^", "x={a^]", "x={a^)", "x={(a)^=1}", "x={a.b^=1}", "x={a[b]^=1}", "x={1^=2}", "x={\"a\"^=1}", "x={nil^=1}", "x={^=1}", "x={^end}", "x={^local a}", "x={a,^=1}", "x={a==^}",
	} {
		mustFault(t, g, s)
	}
	for _, s := range []string{"a.1", "x=a.1", "f.1()"} {
		mustAsGrammar(t, g, s)
		mustFail(t, s, strings.Index(s, "1"), api.ErrForm)
	}
}

// vocabulary is every word of scripts once.
var vocabulary = append(strings.Fields("and break do else elseif end false for function if local nil not or return then true while .. == ~= <= >= + - * / % = < > ( ) { } [ ] , ; . #"), "a", "1", `"t"`)

// follower holds Tree against the grammar, word by word.
type follower struct {
	t       *testing.T
	c       *chart
	checked int
}

// follow puts every word behind a beginning, and every word behind each of those that go on, so many words long: what goes on is whole, or at fault at its end, and what doesn't is at fault there.
func (f *follower) follow(ahead string, left int) {
	for _, w := range vocabulary {
		s := ahead + w
		words, _, _ := lex.Words(w)
		goes := f.c.goOn(terminalOf(words[0]))
		wantAt, want := len(ahead), api.ErrForm
		if goes {
			wantAt = len(s)
		}
		if goes && f.c.whole() {
			wantAt, want = 0, api.OK
		}
		if n, at, e := parse.Tree(s); at != wantAt || e != want || e != api.OK && told(n) != "Block@0" {
			f.t.Fatalf("Tree(%q): %d, %d, not %d, %d", s, at, e, wantAt, want)
		}
		f.checked++
		if !goes {
			continue
		}
		if left > 1 {
			f.follow(s+" ", left-1)
		}
		f.c.back()
	}
}

// P11.1, P11.3: of all beginnings of scripts, some words long, with every word behind.
func TestEveryBeginning(t *testing.T) {
	if len(vocabulary) != 44 {
		t.Fatalf("%d words", len(vocabulary))
	}
	f := &follower{t: t, c: newChart(readGrammar())}
	f.follow("", 4)
	for _, ahead := range []string{
		"x = {", "x = { a ,", "x = { [ a ]", "x = { a =", "f (", "f ( a ,", "x = a ..", "x = a + b", "x = not", "x = ( a )", "x = 1", "x = a [", "x = f ( )",
		"if a then", "if a then break", "if a then return", "if a then else", "if a then elseif b", "if a then elseif b then", "for i = a", "for i = a , b", "for i = a , b , c do",
		"while a do", "while a do return b", "do return ;", "local function f", "local function f ( a ,", "local function f ( ) return", "x = function ( a )", "( a", "( a + b )", "a . b", "a [ b ]", "f ( )", "local a", "return a", "return ;", "break ;",
	} {
		f.c = newChart(f.c.g)
		words, _, _ := lex.Words(ahead)
		for _, w := range words[:len(words)-1] {
			if !f.c.goOn(terminalOf(w)) {
				t.Fatalf("%q is no beginning", ahead)
			}
		}
		f.follow(ahead+" ", 3)
	}
	if f.checked < 250000 {
		t.Errorf("%d only", f.checked)
	}
}

// P11.1, P11.2, P11.6: trees of scripts made by chance, with their places, whatever stands between the words.
func TestMadeTrees(t *testing.T) {
	r := rand.New(rand.NewSource(11))
	kinds := map[int]int{}
	var count func(n api.Node)
	count = func(n api.Node) {
		kinds[n.K]++
		for _, part := range n.L {
			count(part)
		}
	}
	for range 1200 {
		m := &maker{r: r}
		made := m.block(6)
		count(made)
		for _, gap := range []func(int) string{blank, tight(m.words), wide(r), wide(r)} {
			s, places := laid(m.words, gap)
			mustTell(t, s, told(placed(made, places)))
			if got := mustTree(t, s); !parse.Same(got, made) {
				t.Fatalf("%.300q: not the same", s)
			}
		}
		if t.Failed() {
			return
		}
	}
	for k, name := range kindNames {
		if (kinds[k] > 500) == (k >= api.LocalExp && k <= api.GlobalExp) {
			t.Errorf("%d of the kind %s", kinds[k], name)
		}
	}
}

// P11.3: scripts made by chance in which a word is gone, changed, doubled or put in are at fault just where the grammar says.
func TestMadeFaults(t *testing.T) {
	r := rand.New(rand.NewSource(12))
	g := readGrammar()
	for range 4000 {
		m := &maker{r: r}
		m.block(4)
		words := m.words
		if len(words) == 0 || len(words) > 60 {
			continue
		}
		mustAsGrammar(t, g, strings.Join(words, " "))
		i := r.Intn(len(words))
		other := vocabulary[r.Intn(len(vocabulary))]
		switch r.Intn(5) {
		case 0:
			words = slices.Delete(slices.Clone(words), i, i+1)
		case 1:
			words = slices.Insert(slices.Clone(words), i, other)
		case 2:
			words = slices.Insert(slices.Clone(words), i, words[i])
		case 3:
			words = words[:i]
		default:
			words = slices.Clone(words)
			words[i] = other
		}
		mustAsGrammar(t, g, strings.Join(words, " "))
	}
}

// P11.3: words one behind the other by chance.
func TestAnyWords(t *testing.T) {
	r := rand.New(rand.NewSource(13))
	g := readGrammar()
	for range 30000 {
		var words []string
		for range r.Intn(10) {
			words = append(words, vocabulary[r.Intn(len(vocabulary))])
		}
		mustAsGrammar(t, g, strings.Join(words, " "))
	}
	few := strings.Fields("a a a = ( ) . [ ] , { } - .. not f local function end")
	for range 30000 {
		var words []string
		for range r.Intn(12) {
			words = append(words, few[r.Intn(len(few))])
		}
		mustAsGrammar(t, g, strings.Join(words, " "))
	}
}

// P11.3: what lex refuses is told with lex's place and error, ahead of whatever stands wrong ahead of it.
func TestWhatLexRefuses(t *testing.T) {
	nines := strings.Repeat("9", 401)
	for _, s := range []string{
		"$", "x=$", "x = 1a", "end $", "^", "return 1 2 ~", `x="a`, `end "\q"`, `x="` + strings.Repeat("a", 16385) + `"`, "x=" + nines, ") " + nines, "a\x00", "é",
		strings.Repeat(" ", 65537), strings.Repeat("(", 65537), strings.Repeat("(", 16385), strings.Repeat("break ", 16385), strings.Repeat("break ", 16384) + "$", "return " + strings.Repeat("(", 200) + "$", "f(" + strings.Repeat("1,", 40) + "~",
	} {
		_, at, e := lex.Words(s)
		if e == api.OK {
			t.Errorf("lex takes %.60q", s)
		}
		mustFail(t, s, at, e)
	}
	mustFail(t, "end $", 4, api.ErrForm)
	mustFail(t, ") "+nines, 2, api.ErrLong)
	mustFail(t, strings.Repeat(" ", 65537), 0, api.ErrLong)
}

// P11.3: a text, a number or a name is none of the words that it looks like.
func TestLookAlikes(t *testing.T) {
	g := readGrammar()
	for _, w := range vocabulary[:41] {
		text := `"` + w + `"`
		mustTell(t, "x="+text, "Block@0(Assign@0(Name@0:x Text@2:"+w+"))")
		for _, s := range []string{text, "x=a " + text + " b", "do " + text, "if a " + text, "x=(a" + text, "f(a" + text + "b)", "x={a" + text + "1}", "local " + text, "break" + text, "return a " + text} {
			mustAsGrammar(t, g, s)
			if _, _, e := parse.Tree(s); e != api.ErrForm {
				t.Errorf("%q: %d", s, e)
			}
		}
	}
	mustTell(t, "ends=nils", "Block@0(Assign@0(Name@0:ends Name@5:nils))")
	mustTell(t, "End()", "Block@0(CallStat@0(Call@3(Name@0:End)))")
}

// someScripts have all that scripts are made of, their words apart.
var someScripts = []string{
	"",
	"return 1 + 2 * 3",
	"a . b [ c ] ( d )",
	"local a local b = - 1 ; local function f ( p , q ) return p .. q end",
	"if a then b ( ) elseif c then break else return end",
	"if a then elseif b then elseif c then end",
	"while not a do a = a - - 1 ; end",
	"for i = 1 , # t do break end for i = 1 , 10 , 2.5 do end",
	"do do return nil ; end end",
	`x = { 1 , a = 2 ; [ b ] = "t" , "--" ; }`,
	"( a ) = b or c and d == e .. f .. g",
	"return function ( a ) return function ( ) ( a ) ( ) end end",
	"( f ( ) ) . x = true ; ( g ) ( false )",
}

// P11.6: blanks and comments between any two words change nothing but places.
func TestBetweenWords(t *testing.T) {
	gaps := []string{" ", "\t", "\n", "\r", "  ", "\r\n", " --\n", " -- end ) $ \"\n", "\n---\n\n"}
	for _, s := range someScripts {
		words := strings.Fields(s)
		want := mustTree(t, s)
		_, places := laid(words, blank)
		for i := range len(words) + 1 {
			for _, gap := range gaps {
				got, moved := laid(words, func(j int) string {
					if i == j {
						return gap
					}
					return blank(j)
				})
				n := mustTree(t, got)
				if !parse.Same(n, want) || parse.Show(n) != parse.Show(want) {
					t.Fatalf("%q: %s, not %s", got, parse.Show(n), parse.Show(want))
				}
				mustTell(t, got, told(movedTo(want, places, moved)))
			}
		}
		joined, _ := laid(words, tight(words))
		mustSame(t, s, joined)
		mustSame(t, s, strings.Join(words, " -- (\n"))
	}
	mustSame(t, "return a -- b", "return a")
	mustDiffer(t, "return a- -b", "return a --b")
}

// movedTo is a tree whose places are others.
func movedTo(n api.Node, from, to []int) api.Node {
	n.At = to[slices.Index(from, n.At)]
	n.L = slices.Clone(n.L)
	for i, part := range n.L {
		n.L[i] = movedTo(part, from, to)
	}
	return n
}

// P11.5: a whole exp in one pair of brackets more is the same tree.
func TestBracketsMore(t *testing.T) {
	for _, s := range []string{"nil", "1", `"t"`, "a", "a.b", "a[b]", "f(x,y)", "{}", "{a,b=c}", "function(a) return a end", "-a", "not a", "#a", "a..b..c", "a+b*c", "a or b and c", "a<b", "(a)", "((a+b))"} {
		for _, script := range []string{
			"return ?", "return ?;", "local a=?", "x=?", "x=? y=1", "if ? then end", "if a then elseif ? then else end", "while ? do end", "for i=?,a do end", "for i=a,? do end", "for i=a,b,? do end",
			"f(?)", "f(a,?,b)", "a[?]=b", "(?).a=b", "(?)()", "x=a[?]", "x={?}", "x={a,?;b}", "x={a=?}", "x={[?]=a}", "x={[a]=?}", "x=(?)+1", "x=function() return ? end",
		} {
			mustSame(t, strings.Replace(script, "?", s, 1), strings.Replace(script, "?", "("+s+")", 1))
			mustSame(t, strings.Replace(script, "?", s, 1), strings.Replace(script, "?", "(("+s+"))", 1))
		}
	}
	r := rand.New(rand.NewSource(15))
	for range 1000 {
		m := &maker{r: r}
		made := m.block(5)
		for range min(len(m.exps), 10) {
			span := m.exps[r.Intn(len(m.exps))]
			words := slices.Insert(slices.Clone(m.words), span[1], ")")
			words = slices.Insert(words, span[0], "(")
			s := strings.Join(words, " ")
			if !parse.Same(mustTree(t, s), made) {
				t.Fatalf("%.300q", s)
			}
		}
	}
	// Unless it is too deep then.
	deep := func(times int) string {
		return "return " + strings.Repeat("(", times) + "a" + strings.Repeat(")", times)
	}
	mustSame(t, deep(98), deep(99))
	mustFail(t, deep(100), 107, api.ErrLong)
}

// P11.4: Same of trees that differ in one field alone, or in places alone, at the top and far down.
func TestSame(t *testing.T) {
	base := api.Node{K: 24, At: 5, S: "+", N: 7, A: 1, B: 2, Ups: []api.Up{{Own: true, At: 1}, {At: 2}}, L: []api.Node{{K: 15, S: "a"}, {K: 13, N: 3}}}
	changes := map[string]func(n *api.Node){
		"K":         func(n *api.Node) { n.K++ },
		"S":         func(n *api.Node) { n.S = "-" },
		"no S":      func(n *api.Node) { n.S = "" },
		"longer S":  func(n *api.Node) { n.S = "+\x00" },
		"N":         func(n *api.Node) { n.N ^= 1 << 63 },
		"A":         func(n *api.Node) { n.A = -1 },
		"B":         func(n *api.Node) { n.B = 0 },
		"no Ups":    func(n *api.Node) { n.Ups = nil },
		"fewer Ups": func(n *api.Node) { n.Ups = n.Ups[:1] },
		"Own":       func(n *api.Node) { n.Ups = []api.Up{{Own: true, At: 1}, {Own: true, At: 2}} },
		"Up's At":   func(n *api.Node) { n.Ups = []api.Up{{Own: true, At: 1}, {At: 3}} },
		"turned":    func(n *api.Node) { n.Ups = []api.Up{{At: 2}, {Own: true, At: 1}} },
		"no L":      func(n *api.Node) { n.L = nil },
		"fewer L":   func(n *api.Node) { n.L = n.L[:1] },
		"more L":    func(n *api.Node) { n.L = append(slices.Clone(n.L), api.Node{}) },
		"L turned":  func(n *api.Node) { n.L = []api.Node{n.L[1], n.L[0]} },
		"part's K":  func(n *api.Node) { n.L = []api.Node{{K: 14, S: "a"}, {K: 13, N: 3}} },
		"part's N":  func(n *api.Node) { n.L = []api.Node{{K: 15, S: "a"}, {K: 13, N: 4}} },
	}
	far := func(n api.Node) api.Node {
		for i := range 3000 {
			l := []api.Node{{K: 10}, {K: 11}}
			n = api.Node{K: 24, S: "*", L: slices.Insert(l, i%3, n)}
		}
		return n
	}
	if !parse.Same(base, base) || !parse.Same(far(base), far(base)) || !parse.Same(api.Node{}, api.Node{}) {
		t.Error("a tree is not the same as itself")
	}
	for name, change := range changes {
		other := base
		change(&other)
		if parse.Same(base, other) || parse.Same(other, base) || !parse.Same(other, other) {
			t.Errorf("one differs: %s", name)
		}
		if parse.Same(far(base), far(other)) || parse.Same(far(other), far(base)) {
			t.Errorf("one differs far down: %s", name)
		}
	}
	moved := base
	moved.At = -9
	moved.L = []api.Node{{K: 15, S: "a", At: 1}, {K: 13, N: 3, At: 2}}
	if !parse.Same(base, moved) || !parse.Same(far(moved), far(base)) {
		t.Error("places play a part")
	}
	if !parse.Same(api.Node{Ups: []api.Up{}, L: []api.Node{}}, api.Node{}) || !parse.Same(api.Node{}, api.Node{Ups: []api.Up{}, L: []api.Node{}}) {
		t.Error("empty lists and none are not alike")
	}
	nan := api.Node{K: 13, N: 0x7ff8000000000001}
	if !parse.Same(nan, nan) || parse.Same(nan, api.Node{K: 13, N: 0x7ff8000000000002}) || parse.Same(api.Node{N: 1 << 63}, api.Node{}) {
		t.Error("numbers are not held against each other bit by bit")
	}
}

// P11.4: Same and Show of trees made by chance: one that differs in a word is another.
func TestSameOfMade(t *testing.T) {
	r := rand.New(rand.NewSource(16))
	for range 2000 {
		m := &maker{r: r}
		m.block(4)
		if len(m.words) == 0 {
			continue
		}
		a := mustTree(t, strings.Join(m.words, " "))
		words := slices.Clone(m.words)
		i := r.Intn(len(words))
		words[i] = vocabulary[r.Intn(len(vocabulary))]
		b, _, e := parse.Tree(strings.Join(words, " "))
		if e != api.OK {
			continue
		}
		// A comma in a table is as good as a semicolon.
		same := words[i] == m.words[i] || strings.Contains(",;", words[i]) && strings.Contains(",;", m.words[i])
		if parse.Same(a, b) != same || (parse.Show(a) == parse.Show(b)) != same {
			t.Fatalf("%q and %q", m.words, words)
		}
	}
}

// P11.4: Show of every kind of node, and of every field.
func TestShow(t *testing.T) {
	for k := range kindNames {
		if got, want := parse.Show(api.Node{K: k, At: 3}), fmt.Sprintf("(%d)", k); got != want {
			t.Errorf("%s, not %s", got, want)
		}
		n := api.Node{K: k, At: 3, S: "s", N: 8, A: 9, B: 10, Ups: []api.Up{{At: 11}}, L: []api.Node{{K: 10}, {K: 13, N: 5}}}
		if got, want := parse.Show(n), fmt.Sprintf("(%d s 8 9 (10) (13 5))", k); got != want {
			t.Errorf("%s, not %s", got, want)
		}
	}
	for want, n := range map[string]api.Node{
		"(0)":                      {},
		"(-1)":                     {K: -1},
		"(9223372036854775807)":    {K: math.MaxInt64},
		"(0 18446744073709551615)": {N: math.MaxUint64},
		"(0 9223372036854775808)":  {N: 1 << 63},
		"(0 -1)":                   {A: -1},
		"(0 -9223372036854775808)": {A: math.MinInt64},
		"(14 a b)":                 {K: 14, S: "a b"},
		"(14 ()":                   {K: 14, S: "("},
		"(14 \"\n\t\\\x00\xff)":    {K: 14, S: "\"\n\t\\\x00\xff"},
		"(14  )":                   {K: 14, S: " "},
		"(15 a 1)":                 {K: 15, S: "a", A: 1},
		"(15 a 1 2)":               {K: 15, S: "a", N: 1, A: 2},
		"(0 (0) (0))":              {L: []api.Node{{}, {}}},
		"(0 (0 (0)))":              {L: []api.Node{{L: []api.Node{{}}}}},
		"(13)":                     {K: 13, At: 7, B: 7, Ups: []api.Up{{Own: true, At: 7}}},
	} {
		if got := parse.Show(n); got != want {
			t.Errorf("%q, not %q", got, want)
		}
	}
	for s, want := range map[string]string{
		"return 0":     "(0 (7 (13)))",
		`return ""`:    "(0 (7 (14)))",
		`return ")"`:   "(0 (7 (14 ))))",
		"return 1e999": "(0 (7 (13 9218868437227405312)))",
		"while true do local function f(a) break end end": "(0 (5 (12) (0 (1 f 1 (21 (22 a) (0 (8)))))))",
		"do local x=false a.b=nil end":                    "(0 (9 (0 (1 x (11)) (2 (19 (15 a) (14 b)) (10)))))",
		"x=a and b or not c":                              "(0 (2 (15 x) (26 (25 (15 a) (15 b)) (23 not (15 c)))))",
	} {
		if got := parse.Show(mustTree(t, s)); got != want {
			t.Errorf("%s: %s, not %s", s, got, want)
		}
	}
}

// P11.4: trees as deep as any that are promised something.
func TestVeryDeep(t *testing.T) {
	var a, b api.Node
	for range 65535 {
		a, b = api.Node{K: 9, At: 1, L: []api.Node{a}}, api.Node{K: 9, L: []api.Node{b}}
	}
	if !parse.Same(a, b) {
		t.Error("not the same")
	}
	if got := parse.Show(a); got != strings.Repeat("(9 ", 65535)+"(0)"+strings.Repeat(")", 65535) {
		t.Errorf("%.60s", got)
	}
	many := api.Node{L: make([]api.Node, 1<<20)}
	if got := parse.Show(many); len(got) != 3+(4<<20) {
		t.Errorf("%d bytes", len(got))
	}
}

// P11.1, P11.2: the chapter's example, with its places.
func TestExample(t *testing.T) {
	mustTell(t, "return 1+2*3", "Block@0(Return@0(Bin@8:+(Num@7=1 Bin@10:*(Num@9=2 Num@11=3))))")
	if got := parse.Show(mustTree(t, "return 1+2*3")); got != "(0 (7 (24 + (13 4607182418800017408) (24 * (13 4611686018427387904) (13 4613937818241073152)))))" {
		t.Error(got)
	}
}

// P11.3: no call panics, whatever it is given; what lex refuses is refused alike.
func TestAnyBytes(t *testing.T) {
	r := rand.New(rand.NewSource(17))
	g := readGrammar()
	for c := range 256 {
		b := string([]byte{byte(c)})
		for _, s := range []string{b, "x=" + b, "x=a" + b, "f(" + b + ")", `x="` + b + `"`} {
			mustAsGrammar(t, g, s)
		}
	}
	const few = "ax1.=()[]{},;-+#\"\\n \n~<"
	for range 30000 {
		b := make([]byte, r.Intn(24))
		r.Read(b)
		if r.Intn(2) == 0 {
			for i := range b {
				b[i] = few[int(b[i])%len(few)]
			}
		}
		mustAsGrammar(t, g, string(b))
	}
	for range 30000 {
		n := api.Node{K: r.Intn(60) - 20, S: string(rune(r.Intn(300))), N: api.Num(r.Uint64()), A: r.Int() - r.Int(), L: make([]api.Node, r.Intn(3))}
		if !parse.Same(n, n) || !strings.HasPrefix(parse.Show(n), fmt.Sprintf("(%d ", n.K)) {
			t.Fatalf("%v", n)
		}
	}
}

// Memory: no two lists of an answer, or of two, share any, their spare room too; what is handed in stays as it is.
func TestMemory(t *testing.T) {
	r := rand.New(rand.NewSource(18))
	seen := map[*api.Node]int{}
	var note func(n api.Node)
	note = func(n api.Node) {
		room := n.L[:cap(n.L)]
		for i := range room {
			seen[&room[i]]++
			if i >= len(n.L) {
				room[i] = api.Node{K: 99}
			}
		}
		for _, part := range n.L {
			note(part)
		}
	}
	for range 200 {
		m := &maker{r: r}
		m.block(5)
		s := strings.Join(m.words, " ")
		first := mustTree(t, s)
		shown := parse.Show(first)
		note(first)
		second := mustTree(t, s)
		note(second)
		if parse.Show(first) != shown || parse.Show(second) != shown {
			t.Fatalf("%.200q: spare room is shared", s)
		}
	}
	for _, times := range seen {
		if times != 1 {
			t.Fatal("two lists share memory")
		}
	}
	l := []api.Node{{K: 15, S: "a"}, {K: 15, S: "b"}, {K: 15, S: "c"}}
	ups := []api.Up{{At: 1}, {At: 2}}
	n := api.Node{K: 24, S: "+", Ups: ups[:1], L: l[:2]}
	parse.Show(n)
	parse.Same(n, n)
	if told(api.Node{L: l}) != "Block@0(Name@0:a Name@0:b Name@0:c)" || ups[0].At != 1 || ups[1].At != 2 {
		t.Error("what is handed in is changed")
	}
}
