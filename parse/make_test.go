package parse_test

import (
	"math/rand"
	"strings"

	"minstrel/api"
	"minstrel/lex"
)

// maker makes the words of a script by chance, and beside them its tree, in which At is the number of a word till the words are laid.
type maker struct {
	r     *rand.Rand
	words []string
	exps  [][2]int // from which to behind which word whole exps go
}

// ranks are the signs between two, the loosest first.
var ranks = [][]string{
	{"or"}, {"and"}, {"<", ">", "<=", ">=", "~=", "=="}, {".."}, {"+", "-"}, {"*", "/", "%"},
}

// toTheRight is the rank of the sign that groups so.
const toTheRight = 3

func (m *maker) put(words ...string) int {
	at := len(m.words)
	m.words = append(m.words, words...)
	return at
}

func (m *maker) pick(words ...string) string {
	return words[m.r.Intn(len(words))]
}

func (m *maker) name() string {
	return m.pick("a", "b", "c1", "_x", "ends", "nil_", "E5")
}

func (m *maker) block(room int) api.Node {
	b := api.Node{K: api.Block, At: len(m.words)}
	for m.r.Intn(3) > 0 && room > 0 {
		bracket := m.r.Intn(4) == 0
		// What begins with a bracket would be taken as arguments behind some statements.
		if n := len(b.L); n > 0 && (bracket || m.r.Intn(2) == 0) {
			m.put(";")
		}
		b.L = append(b.L, m.stat(room-1, bracket))
	}
	if m.r.Intn(3) > 0 {
		return b
	}
	if len(b.L) > 0 && m.r.Intn(2) == 0 {
		m.put(";")
	}
	n := api.Node{K: api.Return, At: m.put("return")}
	if m.r.Intn(3) > 0 {
		n.L = []api.Node{m.whole(room - 1)}
	}
	if m.r.Intn(2) == 0 {
		m.put(";")
	}
	b.L = append(b.L, n)
	return b
}

func (m *maker) ended(room int) api.Node {
	b := m.block(room)
	m.put("end")
	return b
}

func (m *maker) stat(room int, bracket bool) api.Node {
	if bracket {
		return m.act(room, true)
	}
	at := len(m.words)
	switch m.r.Intn(9) {
	case 0:
		return m.local(room)
	case 1:
		m.put("if")
		return m.branches(at, room)
	case 2:
		m.put("while")
		n := api.Node{K: api.While, At: at, L: []api.Node{m.whole(room)}}
		m.put("do")
		n.L = append(n.L, m.ended(room))
		return n
	case 3:
		return m.loop(room)
	case 4:
		m.put("do")
		return api.Node{K: api.Do, At: at, L: []api.Node{m.ended(room)}}
	case 5:
		return api.Node{K: api.Break, At: m.put("break")}
	}
	return m.act(room, false)
}

func (m *maker) local(room int) api.Node {
	n := api.Node{K: api.Local, At: m.put("local"), S: m.name()}
	switch m.r.Intn(3) {
	case 0:
		m.put("function", n.S)
		n.A = 1
		n.L = []api.Node{m.function(len(m.words), room)}
	case 1:
		m.put(n.S, "=")
		n.L = []api.Node{m.whole(room)}
	default:
		m.put(n.S)
	}
	return n
}

func (m *maker) branches(at, room int) api.Node {
	n := api.Node{K: api.If, At: at, L: []api.Node{m.whole(room)}}
	m.put("then")
	n.L = append(n.L, m.block(room))
	other := api.Node{K: api.Block, At: len(m.words)}
	switch m.r.Intn(3) {
	case 0:
		m.put("elseif")
		other.L = []api.Node{m.branches(other.At, room-1)}
	case 1:
		m.put("else")
		other = m.ended(room)
	default:
		m.put("end")
	}
	n.L = append(n.L, other)
	return n
}

func (m *maker) loop(room int) api.Node {
	n := api.Node{K: api.For, At: m.put("for"), S: m.name()}
	m.put(n.S, "=")
	n.L = append(n.L, m.whole(room))
	m.put(",")
	n.L = append(n.L, m.whole(room))
	if m.r.Intn(2) == 0 {
		m.put(",")
		n.L = append(n.L, m.whole(room))
		m.put("do")
	} else {
		n.L = append(n.L, api.Node{K: api.NumExp, At: m.put("do"), N: 0x3ff0000000000000})
	}
	n.L = append(n.L, m.ended(room))
	return n
}

// act is an assignment or a call, which begins with a bracket, or with none.
func (m *maker) act(room int, bracket bool) api.Node {
	at := len(m.words)
	brackets := 0
	if bracket {
		brackets = m.r.Intn(3)
	}
	m.put(strings.Fields(strings.Repeat("( ", brackets))...)
	n := m.suffixed(room, bracket && brackets == 0)
	for n.K != api.NameExp && n.K != api.Index && n.K != api.Call {
		n = m.suffix(n, room)
	}
	m.put(strings.Fields(strings.Repeat(") ", brackets))...)
	if n.K == api.Call {
		return api.Node{K: api.CallStat, At: at, L: []api.Node{n}}
	}
	m.put("=")
	return api.Node{K: api.Assign, At: at, L: []api.Node{n, m.whole(room)}}
}

// whole is an exp of the loosest kind, as the grammar's rules have them.
func (m *maker) whole(room int) api.Node {
	from := len(m.words)
	n := m.exp(0, room)
	m.exps = append(m.exps, [2]int{from, len(m.words)})
	return n
}

// exp is an exp whose signs are at least of that rank, unless they are in brackets.
func (m *maker) exp(rank, room int) api.Node {
	if room <= 0 {
		return m.leaf()
	}
	room--
	switch m.r.Intn(8) {
	case 0, 1:
		return m.binary(rank, room)
	case 2:
		n := api.Node{K: api.Un, S: m.pick("not", "-", "#")}
		n.At = m.put(n.S)
		n.L = []api.Node{m.exp(len(ranks), room)}
		return n
	case 3:
		return m.function(m.put("function"), room)
	case 4:
		return m.table(room)
	case 5:
		return m.suffixed(room, m.r.Intn(2) == 0)
	}
	return m.leaf()
}

func (m *maker) leaf() api.Node {
	n := api.Node{At: len(m.words)}
	switch m.r.Intn(6) {
	case 0:
		n.K = api.NilExp + m.r.Intn(3)
		m.put([]string{"nil", "false", "true"}[n.K-api.NilExp])
	case 1:
		n.K, n.N = api.NumExp, 0x4004000000000000
		m.put("2.5")
	case 2:
		n.K, n.S = api.TextExp, "end"
		m.put(`"end"`)
	default:
		n.K, n.S = api.NameExp, m.name()
		m.put(n.S)
	}
	return n
}

func (m *maker) binary(rank, room int) api.Node {
	own := m.r.Intn(len(ranks))
	if own < rank {
		return m.bracketed(func() api.Node { return m.binary(0, room) })
	}
	left, right := own, own+1
	if own == toTheRight {
		left, right = own+1, own
	}
	n := api.Node{K: api.Bin, S: m.pick(ranks[own]...)}
	n.L = []api.Node{m.exp(left, room)}
	n.At = m.put(n.S)
	n.L = append(n.L, m.exp(right, room))
	switch n.S {
	case "and":
		n.K, n.S = api.And, ""
	case "or":
		n.K, n.S = api.Or, ""
	}
	return n
}

// bracketed is what is made within brackets.
func (m *maker) bracketed(inside func() api.Node) api.Node {
	m.put("(")
	n := inside()
	m.put(")")
	return n
}

func (m *maker) function(at, room int) api.Node {
	n := api.Node{K: api.FuncExp, At: at}
	m.put("(")
	for i := range m.r.Intn(4) {
		if i > 0 {
			m.put(",")
		}
		name := m.name()
		n.L = append(n.L, api.Node{K: api.Param, At: m.put(name), S: name})
	}
	m.put(")")
	n.L = append(n.L, m.ended(room))
	return n
}

func (m *maker) table(room int) api.Node {
	n := api.Node{K: api.Make, At: m.put("{")}
	count := m.r.Intn(4)
	for i := range count {
		item := api.Node{K: api.Item, At: len(m.words)}
		switch m.r.Intn(3) {
		case 0:
			m.put("[")
			item.L = []api.Node{m.whole(room)}
			m.put("]", "=")
		case 1:
			name := m.name()
			item.L = []api.Node{{K: api.TextExp, At: m.put(name, "="), S: name}}
		}
		item.L = append(item.L, m.whole(room))
		n.L = append(n.L, item)
		if i < count-1 || m.r.Intn(2) == 0 {
			m.put(m.pick(",", ";"))
		}
	}
	m.put("}")
	return n
}

// suffixed is a name, or an exp in brackets, with indices and arguments behind it, or none.
func (m *maker) suffixed(room int, bracket bool) api.Node {
	var n api.Node
	if bracket {
		n = m.bracketed(func() api.Node { return m.whole(room - 1) })
	} else {
		n = api.Node{K: api.NameExp, S: m.name()}
		n.At = m.put(n.S)
	}
	for m.r.Intn(2) == 0 {
		n = m.suffix(n, room)
	}
	return n
}

func (m *maker) suffix(base api.Node, room int) api.Node {
	n := api.Node{K: api.Index, At: len(m.words), L: []api.Node{base}}
	switch m.r.Intn(3) {
	case 0:
		m.put("[")
		n.L = append(n.L, m.whole(room-1))
		m.put("]")
	case 1:
		name := m.name()
		n.L = append(n.L, api.Node{K: api.TextExp, At: m.put(".", name) + 1, S: name})
	default:
		n.K = api.Call
		m.put("(")
		for i := range m.r.Intn(4) {
			if i > 0 {
				m.put(",")
			}
			n.L = append(n.L, m.whole(room-1))
		}
		m.put(")")
	}
	return n
}

// laid is words one behind the other as a script, with what gap tells ahead of each, and behind the last one, and where each of them stands, the end too.
func laid(words []string, gap func(i int) string) (string, []int) {
	var b strings.Builder
	var places []int
	for i, w := range words {
		b.WriteString(gap(i))
		places = append(places, b.Len())
		b.WriteString(w)
	}
	b.WriteString(gap(len(words)))
	return b.String(), append(places, b.Len())
}

// tight are gaps that are there only where two words would be others without.
func tight(words []string) func(i int) string {
	return func(i int) string {
		if i == 0 || i == len(words) {
			return ""
		}
		both, _, e := lex.Words(words[i-1] + words[i])
		if e == api.OK && len(both) == 3 && both[1].At == len(words[i-1]) {
			return ""
		}
		return " "
	}
}

// blank is a blank ahead of each word.
func blank(i int) string {
	return strings.Repeat(" ", min(i, 1))
}

// wide are gaps of blanks and comments by chance, a blank first, since a comment right behind a - would begin with it.
func wide(r *rand.Rand) func(i int) string {
	return func(i int) string {
		gap := []string{" ", "\n", "\t", "\r"}[r.Intn(4)]
		for range r.Intn(3) {
			gap += []string{" ", "\n", "\t", "\r", "-- x = ( \" $\n", "--\n", " --[[ end\n"}[r.Intn(7)]
		}
		return gap
	}
}

// placed is a tree with places instead of numbers of words.
func placed(n api.Node, places []int) api.Node {
	n.At = places[n.At]
	l := make([]api.Node, len(n.L))
	for i, part := range n.L {
		l[i] = placed(part, places)
	}
	n.L = l
	return n
}
