package parse_test

import (
	"strings"

	"minstrel/api"
	"minstrel/lex"
)

// grammarText is P11.1, with { } and [ ] written out as rules of their own. A target is a suffixed that is a name or an index, a call one that is a call, be they in brackets or not.
const grammarText = `
script: block
block: stats | stats return | stats return ; | stats return exp | stats return exp ;
stats: | stats stat | stats stat ;
stat: local NAME | local NAME = exp | local function NAME body
stat: if exp then block elseifs end | if exp then block elseifs else block end
elseifs: | elseifs elseif exp then block
stat: while exp do block end
stat: for NAME = exp , exp do block end | for NAME = exp , exp , exp do block end
stat: do block end | break | target = exp | call
target: NAME | suffixed [ exp ] | suffixed . NAME | ( target )
call: suffixed ( ) | suffixed ( exps ) | ( call )
body: ( ) block end | ( names ) block end
names: NAME | names , NAME
exp: exp or e2 | e2
e2: e2 and e3 | e3
e3: e3 < e4 | e3 > e4 | e3 <= e4 | e3 >= e4 | e3 ~= e4 | e3 == e4 | e4
e4: e5 .. e4 | e5
e5: e5 + e6 | e5 - e6 | e6
e6: e6 * e7 | e6 / e7 | e6 % e7 | e7
e7: not e7 | - e7 | # e7 | simple
simple: nil | false | true | NUM | TEXT | function body | table | suffixed
suffixed: NAME | ( exp ) | suffixed [ exp ] | suffixed . NAME | suffixed ( ) | suffixed ( exps )
exps: exp | exps , exp
table: { } | { items } | { items sep }
items: item | items sep item
sep: , | ;
item: [ exp ] = exp | NAME = exp | exp
`

// rule is one way to write what its name names.
type rule struct {
	name  string
	parts []string
}

// grammar is the rules of grammarText by their names.
type grammar map[string][]*rule

func readGrammar() grammar {
	g := grammar{}
	for _, line := range strings.Split(strings.TrimSpace(grammarText), "\n") {
		name, ways, _ := strings.Cut(line, ":")
		for _, way := range strings.Split(ways, "|") {
			g[name] = append(g[name], &rule{name, strings.Fields(way)})
		}
	}
	return g
}

// state is a rule of which so many parts have been met, from a token on.
type state struct {
	rule *rule
	met  int
	from int
}

// wanted is the part that is to come, empty if there is none.
func (s state) wanted() string {
	if s.met == len(s.rule.parts) {
		return ""
	}
	return s.rule.parts[s.met]
}

// chart tells which tokens a script may go on with: it keeps all states behind each token (Earley's way), and knows nothing of the parser.
type chart struct {
	g    grammar
	sets [][]state
}

func newChart(g grammar) *chart {
	c := &chart{g: g}
	first := []state{}
	for _, r := range g["script"] {
		first = append(first, state{rule: r})
	}
	c.sets = [][]state{c.closed(first)}
	return c
}

// closed adds to a set, which is behind the last one, what follows from it.
func (c *chart) closed(set []state) []state {
	here := len(c.sets)
	seen := map[state]bool{}
	var l []state
	add := func(s state) {
		if !seen[s] {
			seen[s] = true
			l = append(l, s)
		}
	}
	for _, s := range set {
		add(s)
	}
	// Empty parts are met by going through the set till nothing more comes.
	for more := -1; more != len(l); {
		more = len(l)
		for i := 0; i < len(l); i++ {
			s := l[i]
			if w := s.wanted(); w != "" {
				for _, r := range c.g[w] {
					add(state{r, 0, here})
				}
				continue
			}
			about := l
			if s.from < here {
				about = c.sets[s.from]
			}
			for _, t := range about {
				if t.wanted() == s.rule.name {
					add(state{t.rule, t.met + 1, t.from})
				}
			}
		}
	}
	return l
}

// goOn adds a token, or tells that no script goes on with it. An opening bracket behind a suffixed is that of arguments, wherever it can be.
func (c *chart) goOn(terminal string) bool {
	var set, begun []state
	for _, s := range c.sets[len(c.sets)-1] {
		if s.wanted() != terminal {
			continue
		}
		next := state{s.rule, s.met + 1, s.from}
		if s.met > 0 {
			begun = append(begun, next)
		}
		set = append(set, next)
	}
	if terminal == "(" && len(begun) > 0 {
		set = begun
	}
	if len(set) == 0 {
		return false
	}
	c.sets = append(c.sets, c.closed(set))
	return true
}

// back takes the last token back.
func (c *chart) back() {
	c.sets = c.sets[:len(c.sets)-1]
}

// whole tells whether the tokens so far are a script.
func (c *chart) whole() bool {
	for _, s := range c.sets[len(c.sets)-1] {
		if s.rule.name == "script" && s.wanted() == "" {
			return true
		}
	}
	return false
}

// terminalOf is a token as the grammar has it.
func terminalOf(w api.Token) string {
	return [...]string{"NAME", w.S, "NUM", "TEXT", "END"}[w.K]
}

// faultByGrammar is the place of the first token with which no script goes on, if there is one, by the grammar alone.
func faultByGrammar(g grammar, words []api.Token) (int, bool) {
	c := newChart(g)
	end := len(words) - 1
	for _, w := range words[:end] {
		if !c.goOn(terminalOf(w)) {
			return w.At, true
		}
	}
	if !c.whole() {
		return words[end].At, true
	}
	return 0, false
}

// answerByGrammar is the place and the error of a script of which no limit is met.
func answerByGrammar(g grammar, s string) (int, api.Errno) {
	words, at, e := lex.Words(s)
	if e != api.OK {
		return at, e
	}
	if at, bad := faultByGrammar(g, words); bad {
		return at, api.ErrForm
	}
	return 0, api.OK
}
