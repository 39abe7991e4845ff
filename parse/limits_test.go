package parse_test

import (
	"math/rand"
	"strings"
	"testing"

	"minstrel/api"
	"minstrel/parse"
)

// nesting is a way to lie about something: what opens it and what shuts it. In both ^ stands ahead of the first token that lies in one more, ! ahead of the first one that does no longer, and ~ ahead of the first one behind the opening of something empty. An exp has its rank, and what it lies about must have at least another one.
type nesting struct {
	open, shut  string
	rank, least int
}

const (
	ofSign   = 6 // the rank of signs ahead of one
	ofSimple = 7
)

// Exps about exps, exps about blocks, statements about blocks, statements about exps; and what stands inside at last.
var (
	expOfExp = []nesting{
		{"(^", ")", ofSimple, 0}, {"{^", "}", ofSimple, 0}, {"{^[a]=", "}", ofSimple, 0}, {"{^[", "]=a}", ofSimple, 0},
		{"{^a=", "}", ofSimple, 0}, {"{^a,b;", ",c;}", ofSimple, 0}, {"a[^", "]", ofSimple, 0}, {"a.b[^", "].c ", ofSimple, 0},
		{"a(^", ")", ofSimple, 0}, {"a(^b,", ",c)", ofSimple, 0}, {"(^a)!(^", ")", ofSimple, 0}, {"a(~)(^", ")", ofSimple, 0},
		{"a[^b]!(^", ")", ofSimple, 0}, {"not ^", "", ofSign, ofSign}, {"- ^", "", ofSign, ofSign}, {"#^", "", ofSign, ofSign},
		{"a..^", "", 3, 3}, {"a+b..^", "", 3, 3}, {"a..^b..^", "", 3, 3}, {"-^a!..^", "", 3, 3}, {"a+-^b!..^", "", 3, 3},
		{"{~}..^", "", 3, 3}, {"(^", ")+a ", 4, 0}, {"a*", "", 5, 6}, {"a<", "", 2, 3}, {"a and ", "", 1, 2}, {"a or ", "", 0, 1},
	}
	expOfBlock = []nesting{
		{"function()^", "end ", ofSimple, 0}, {"function(a,b)^", "end ", ofSimple, 0}, {"a(^function()^", "end )", ofSimple, 0},
		{"-^function()^", "end ", ofSign, 0},
	}
	statOfBlock = []nesting{
		{open: "do ^", shut: "end "}, {open: "while a do ^", shut: "end "}, {open: "for i=a,b do ^", shut: "end "},
		{open: "for i=a,b,c do ^", shut: "end "}, {open: "if a then ^", shut: "end "}, {open: "if a then ^", shut: "!else ~end "},
		{open: "if a then ^", shut: "!elseif ^b then ~end "}, {open: "if a then ~else ^", shut: "end "},
		{open: "if a then ~elseif ^b then ^", shut: "end "}, {open: "if a then ~elseif ^b then ~else ^", shut: "end "},
		{open: "if a then ~elseif ^b then ~elseif ^c then ^", shut: "end "}, {open: "local function f()^", shut: "end "},
		{open: "local function f(a,b)^", shut: "end "}, {open: "break;do ^", shut: "end;break "},
	}
	statOfExp = []nesting{
		{open: "x="}, {open: "local x="}, {open: "return "}, {open: "while ", shut: "do ~end "}, {open: "for i=", shut: ",a do ~end "},
		{open: "for i=a,", shut: "do ~end "}, {open: "for i=a,b,", shut: "do ~end "}, {open: "if ", shut: "then ~end "},
		{open: "if a then ~elseif ^", shut: "then ~end "}, {open: "x[^", shut: "]=a "}, {open: "x(^", shut: ")"},
		{open: "(^", shut: ").x=a "}, {open: "do ^break end !x="},
	}
	expInside = []nesting{
		{"a ", "", ofSimple, 0}, {"1 ", "", ofSimple, 0}, {`"s"`, "", ofSimple, 0}, {"nil ", "", ofSimple, 0}, {"{~}", "", ofSimple, 0},
		{"{^a}", "", ofSimple, 0}, {"a.b ", "", ofSimple, 0}, {"a[^b]", "", ofSimple, 0}, {"f(~)", "", ofSimple, 0}, {"(^a)", "", ofSimple, 0},
		{"function()~end ", "", ofSimple, 0}, {"-^a ", "", ofSign, 0}, {"a..^b ", "", 3, 0}, {"a+b ", "", 4, 0},
	}
	statInside = []nesting{
		{open: ""}, {open: "break "}, {open: "return "}, {open: "return a "}, {open: "a=b "}, {open: "(^a)!=b "}, {open: "f(~)"}, {open: "local a "},
		{open: "do ~end "}, {open: "if a then ~end "}, {open: "x={~}"},
	}
)

// chain is ways to lie about something, in one another, from the whole script on.
type chain struct {
	text  []byte
	level int
	fault int // the place of the first token that lies too deep; below 0: there is none
	about []opened
}

// opened is what shuts a way that is open, and how deep it is inside.
type opened struct {
	shut  string
	level int
}

func newChain(ways ...nesting) *chain {
	c := &chain{level: 1, fault: -1}
	for _, n := range ways {
		c.add(n)
	}
	return c
}

// add goes on within a way.
func (c *chain) add(n nesting) {
	c.lay(n.open)
	c.about = append(c.about, opened{n.shut, c.level})
}

// lay adds a text, and counts as it is marked.
func (c *chain) lay(marked string) {
	for _, b := range []byte(marked) {
		deep := 0
		switch b {
		case '^':
			c.level++
			deep = c.level
		case '~':
			deep = c.level + 1
		case '!':
			c.level--
		default:
			c.text = append(c.text, b)
		}
		if deep > 100 && c.fault < 0 {
			c.fault = len(c.text)
		}
	}
}

// mustCount: the script, when all is shut, is too deep where the chain says, whatever stands behind that, or not at all.
func (c *chain) mustCount(t *testing.T) {
	t.Helper()
	open := string(c.text)
	for i := len(c.about) - 1; i >= 0; i-- {
		c.level = c.about[i].level
		c.lay(c.about[i].shut)
	}
	s := string(c.text)
	if c.fault < 0 {
		mustTree(t, s)
		return
	}
	mustFail(t, s, c.fault, api.ErrLong)
	mustFail(t, s+" end ) = 1", c.fault, api.ErrLong)
	if c.fault < len(open) {
		mustFail(t, open, c.fault, api.ErrLong)
	}
}

// mustCountAlone: behind the first one a way again and again in itself, till it is too deep, with each of the insides.
func mustCountAlone(t *testing.T, first, n nesting, insides []nesting) {
	t.Helper()
	for _, inside := range insides {
		if inside.rank < n.least {
			continue
		}
		deep := false
		for times := 1; times <= 101 && !deep; times++ {
			c := newChain(first)
			for range times {
				c.add(n)
			}
			c.add(inside)
			if times > 1 && c.level < 95 {
				continue
			}
			c.mustCount(t)
			deep = c.fault >= 0
		}
		if !deep {
			t.Errorf("%q is never too deep", n.open)
		}
	}
}

// P11.3: each way to lie deeper alone: in 100 such (the whole script is one) is not too deep, in 101 is, at the first token within.
func TestDeepAlone(t *testing.T) {
	for _, n := range expOfExp {
		if strings.Contains(n.open, "^") {
			mustCountAlone(t, nesting{open: "return "}, n, expInside)
		}
	}
	for _, n := range expOfBlock {
		mustCountAlone(t, nesting{}, nesting{open: "return " + n.open, shut: n.shut}, statInside)
	}
	for _, n := range statOfBlock {
		mustCountAlone(t, nesting{}, n, statInside)
	}
	for _, n := range statOfExp {
		mustCountAlone(t, nesting{}, nesting{open: n.open + "function()^", shut: "end !" + n.shut}, statInside)
	}
}

// P11.3: how deep is too deep, told by numbers.
func TestDeepPlaces(t *testing.T) {
	again := strings.Repeat
	mustTree(t, "return "+again("(", 99)+"1"+again(")", 99))
	mustFail(t, "return "+again("(", 100)+"1"+again(")", 100), 107, api.ErrLong)
	mustFail(t, "return "+again("(", 100)+"1", 107, api.ErrLong)
	mustFail(t, "return "+again("(", 101)+"1", 107, api.ErrLong)
	mustFail(t, "return "+again("(", 10000), 107, api.ErrLong)
	mustTree(t, "return "+again("not ", 99)+"a")
	mustFail(t, "return "+again("not ", 100)+"a", 407, api.ErrLong)
	mustTree(t, "return a"+again("..a", 99))
	mustFail(t, "return a"+again("..a", 100), 307, api.ErrLong)
	mustTree(t, again("do ", 99)+"break "+again("end ", 99))
	mustFail(t, again("do ", 100)+"break "+again("end ", 100), 300, api.ErrLong)
	mustTree(t, again("do ", 99)+again("end ", 99))
	mustFail(t, again("do ", 100)+again("end ", 100), 300, api.ErrLong)
	mustTree(t, "x="+again("{", 99)+again("}", 99))
	mustFail(t, "x="+again("{", 100)+again("}", 100), 102, api.ErrLong)
	mustTree(t, again("f(", 99)+again(")", 99))
	mustFail(t, again("f(", 100)+again(")", 100), 200, api.ErrLong)
	mustTree(t, "return "+again("function()return ", 99)+again(" end", 99))
	mustTree(t, "if a then break "+again("elseif b then break ", 98)+"end")
	mustFail(t, "if a then break "+again("elseif b then break ", 99)+"end", 16+98*20+14, api.ErrLong)
	mustTree(t, "if a then break "+again("elseif b then break ", 98)+"else break end")
}

// P11.3: ways to lie deeper in one another, by chance.
func TestDeepMixed(t *testing.T) {
	r := rand.New(rand.NewSource(14))
	pick := func(least int, ways []nesting) nesting {
		for {
			if n := ways[r.Intn(len(ways))]; n.rank >= least {
				return n
			}
		}
	}
	deep := 0
	for range 4000 {
		c := newChain()
		goal := 90 + r.Intn(16)
		least, inExp := 0, false
		for c.level < goal {
			var n nesting
			if inExp {
				inExp = r.Intn(3) > 0
				n = pick(least, [][]nesting{expOfBlock, expOfExp}[toInt(inExp)])
			} else {
				inExp = r.Intn(3) > 0
				n = pick(0, [][]nesting{statOfBlock, statOfExp}[toInt(inExp)])
			}
			least = n.least
			c.add(n)
		}
		if inExp {
			c.add(pick(least, expInside))
		} else {
			c.add(pick(0, statInside))
		}
		c.mustCount(t)
		if c.fault >= 0 {
			deep++
		}
		if t.Failed() {
			return
		}
	}
	if deep < 1000 || deep > 3000 {
		t.Errorf("%d of 4000 are too deep", deep)
	}
}

func toInt(b bool) int {
	if b {
		return 1
	}
	return 0
}

// P11.3: what lies beside one another adds up to nothing.
func TestBesideOneAnother(t *testing.T) {
	mustTree(t, strings.Repeat("do end ", 5000))
	mustTree(t, strings.Repeat("f((a))", 2000))
	mustTree(t, strings.Repeat("x={{}}", 2000))
	mustTree(t, "return "+strings.Repeat("(a)+-b*", 2000)+"c")
	mustTree(t, "return "+strings.Repeat("a.b[c](d)+", 1000)+"c")
	mustTree(t, "return a"+strings.Repeat("[b]", 5000))
	mustTree(t, "return a"+strings.Repeat("()", 8000))
	mustTree(t, "return "+strings.Repeat("a..b==", 4000)+"c")
	mustTree(t, strings.Repeat("if a then elseif b then end ", 2000))
	mustTree(t, "return not"+strings.Repeat(" a and not", 5000)+" a")
	mustTree(t, "x={"+strings.Repeat("[{}]=-a,", 1500)+"}")
}

// P11.3: a token that can't stand there at all is at fault as such, be it too deep, too, or one too many.
func TestFaultsWhereItIsTooDeep(t *testing.T) {
	exps := "return " + strings.Repeat("(", 99)
	for open, bad := range map[string]string{
		"(": ") ] , = end local then ;", "{": ", ; = ) ] end", "a[": "] ) , = end", "a(": ", ; = ] end", "not ": ") = and end", "- ": ") = * end", "#": ") = ..", "a..": ".. ) =",
		"function()": ") = else elseif then ; 1",
	} {
		for _, w := range append(strings.Fields(bad), "") {
			mustFail(t, exps+open+w, len(exps+open), api.ErrForm)
		}
	}
	stats := strings.Repeat("do ", 99)
	for open, bad := range map[string]string{
		"do ": ") = else elseif then ; 1", "while a do ": "else then ;", "for i=a,b do ": "else , 1", "if a then ": "then ) ;", "local function f()": "else ) ;",
	} {
		for _, w := range append(strings.Fields(bad), "") {
			mustFail(t, stats+open+w, len(stats+open), api.ErrForm)
		}
	}
	chained := "if a then break " + strings.Repeat("elseif b then break ", 98) + "elseif "
	mustFail(t, chained+"then", len(chained), api.ErrForm)
	mustFail(t, chained+"b then =", len(chained)+7, api.ErrForm)
	mustFail(t, chained+"b then else", len(chained)+7, api.ErrLong)
	// Within one block more what stands ahead of it is too deep already.
	within := "do " + chained
	mustFail(t, within, len(within)-len("break elseif "), api.ErrLong)
}

// P11.3: of what is wrong the first is told.
func TestFirstFault(t *testing.T) {
	deep := strings.Repeat("(", 200) + "a"
	many := "f(" + strings.Repeat("1,", 40)
	mustFail(t, "x==1 y="+deep, 1, api.ErrForm)
	mustFail(t, "x="+deep+" = =", 102, api.ErrLong)
	mustFail(t, "x= ="+many, 3, api.ErrForm)
	mustFail(t, many+" = =", 62, api.ErrLong)
	mustFail(t, "x="+deep+" "+many, 102, api.ErrLong)
	mustFail(t, many+deep, 62, api.ErrLong)
	mustFail(t, "f(1 2,"+strings.Repeat("1,", 40), 4, api.ErrForm)
	mustFail(t, "f("+strings.Repeat("1,", 29)+"1 2,3", 2+60, api.ErrForm)
}

// P11.3: a call has at most 30 arguments.
func TestManyArguments(t *testing.T) {
	args := strings.Repeat("a,", 29)
	mustTree(t, "f("+args+"a)")
	mustTree(t, "return f("+args+"a)")
	mustTree(t, "x=f("+args+"f("+args+"a))")
	mustTree(t, "f("+args+"a)("+args+"a)")
	mustTree(t, "f("+args+"function("+args+"a) end)")
	if n := mustTree(t, "f("+args+"b)"); len(n.L[0].L[0].L) != 31 || n.L[0].L[0].L[30].S != "b" {
		t.Errorf("30 arguments: %s", told(n))
	}
	for _, first := range []string{"a", "1", `"s"`, "nil", "(", "{", "-", "not", "#", "function", "a.b(", "true", "false"} {
		mustFail(t, "f("+args+"a,"+first, 62, api.ErrLong)
		mustFail(t, "x.y( "+args+"a, "+first+" )", 66, api.ErrLong)
	}
	mustFail(t, "f("+strings.Repeat("a,", 1000)+"a)", 62, api.ErrLong)
	mustFail(t, "f(g("+args+"a,a))", 64, api.ErrLong)
	for _, bad := range []string{")", ",", "", "=", "end", "]", ";", "local", "and", ".."} {
		mustFail(t, "f("+args+"a,"+bad, 62, api.ErrForm)
	}
	mustFail(t, "f("+args+"a ,", 63, api.ErrForm)
	mustFail(t, "f("+args+"a b", 62, api.ErrForm)
}

// P11.3: a function has at most 30 parameters.
func TestManyParameters(t *testing.T) {
	names := strings.Repeat("a,", 29)
	mustTree(t, "x=function("+names+"a) end")
	mustTree(t, "local function f("+names+"a) end")
	if n := mustTree(t, "x=function("+names+"b) end"); len(n.L[0].L[1].L) != 31 || n.L[0].L[1].L[29].S != "b" {
		t.Errorf("30 parameters: %s", told(n))
	}
	mustFail(t, "x=function("+names+"a,a) end", 71, api.ErrLong)
	mustFail(t, "x=function("+names+"a, b", 72, api.ErrLong)
	mustFail(t, "local function f("+names+"a,a", 77, api.ErrLong)
	mustFail(t, "x=function("+strings.Repeat("a,", 1000)+"a) end", 71, api.ErrLong)
	for _, bad := range []string{")", ",", "", "=", "end", "1", `"a"`, "(", "nil"} {
		mustFail(t, "x=function("+names+"a,"+bad, 71, api.ErrForm)
	}
	mustFail(t, "x=function("+names+"a b", 71, api.ErrForm)
}

// P11.1: other lists have no limit but that of tokens.
func TestLongLists(t *testing.T) {
	if n := mustTree(t, "x={"+strings.Repeat("a,", 8190)+"}"); len(n.L[0].L[1].L) != 8190 {
		t.Errorf("%d items", len(n.L[0].L[1].L))
	}
	if n := mustTree(t, strings.Repeat("break;", 8192)); len(n.L) != 8192 {
		t.Errorf("%d statements", len(n.L))
	}
	mustTree(t, strings.Repeat("f()", 5461)+";")
	mustFail(t, strings.Repeat("f()", 5461)+"=", 16383, api.ErrForm)
	mustFail(t, strings.Repeat("f()", 5461)+";=", 16384, api.ErrLong)
	deep := func(n api.Node) int {
		count := 0
		for ; len(n.L) > 0; n = n.L[0] {
			count++
		}
		return count
	}
	for sign, times := range map[string]int{"+": 8191, " and ": 8191, "<": 8191, ".b": 8190, "()": 8191} {
		operand := "a"
		if sign == ".b" || sign == "()" {
			operand = ""
		}
		n := mustTree(t, "return a"+strings.Repeat(sign+operand, times))
		if got := deep(n); got != times+2 {
			t.Errorf("%d of %q in one another", got, sign)
		}
		if again := mustTree(t, " return a"+strings.Repeat(sign+operand, times)); !parse.Same(n, again) || parse.Show(n) != parse.Show(again) {
			t.Errorf("%q is not the same again", sign)
		}
	}
}
