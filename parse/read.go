package parse

import (
	"slices"

	"minstrel/api"
)

// fault is what a parser gives up with: where the token stands with which no script goes on, and why.
type fault struct {
	at  int
	err api.Errno
}

// parser goes through a script's tokens, of which it never takes the last one, the end.
type parser struct {
	words []api.Token
	taken int
	nest  int // in how many blocks, brackets and the like the next token lies
}

// word is the next token.
func (p *parser) word() api.Token {
	return p.words[p.taken]
}

// take goes on behind the next token.
func (p *parser) take() api.Token {
	w := p.word()
	p.taken++
	return w
}

// fault is that of the next token.
func (p *parser) fault(err api.Errno) fault {
	return fault{p.word().At, err}
}

// is tells whether the next token is one of these key words and signs. (A text may say the same.)
func (p *parser) is(words ...string) bool {
	w := p.word()
	return w.K == api.TokWord && slices.Contains(words, w.S)
}

// isName tells whether the next token is a name.
func (p *parser) isName() bool {
	return p.word().K == api.TokName
}

// isEnd tells whether there is no token but the end.
func (p *parser) isEnd() bool {
	return p.word().K == api.TokEnd
}

// pass takes a key word or a sign, if it stands there.
func (p *parser) pass(word string) bool {
	there := p.is(word)
	if there {
		p.taken++
	}
	return there
}

// want takes a key word or a sign that must stand there.
func (p *parser) want(word string) {
	if !p.pass(word) {
		panic(p.fault(api.ErrForm))
	}
}

// name takes a name that must stand there.
func (p *parser) name() api.Token {
	if !p.isName() {
		panic(p.fault(api.ErrForm))
	}
	return p.take()
}

// deeper does what lies in one block, bracket or the like more. A token that can't stand there at all is left to what it does: that is told ahead of its lying too deep.
func (p *parser) deeper(may func() bool, inside func()) {
	if p.nest == api.MaxNest && may() {
		panic(p.fault(api.ErrLong))
	}
	p.nest++
	inside()
	p.nest--
}

// list reads parameters or arguments, commas between, and the bracket that closes them. Here, too, a token that can't stand there is told ahead of its being one too many.
func (p *parser) list(may func() bool, part func() api.Node) []api.Node {
	var l []api.Node
	if p.pass(")") {
		return l
	}
	for {
		if len(l) == api.MaxArgs && may() {
			panic(p.fault(api.ErrLong))
		}
		l = append(l, part())
		if !p.pass(",") {
			break
		}
	}
	p.want(")")
	return l
}
