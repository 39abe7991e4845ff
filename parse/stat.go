package parse

import (
	"math"

	"minstrel/api"
)

// block reads a block, up to a token that may end it.
func (p *parser) block(ends func() bool) api.Node {
	b := api.Node{K: api.Block, At: p.word().At}
	may := func() bool { return p.beginsStat() || p.is("return") || ends() }
	p.deeper(may, func() { b.L = p.stats() })
	if !ends() {
		panic(p.fault(api.ErrForm))
	}
	return b
}

// ended reads a block and the word end behind it.
func (p *parser) ended() api.Node {
	b := p.block(func() bool { return p.is("end") })
	p.take()
	return b
}

// beginsStat tells whether a statement (other than a return) may begin here.
func (p *parser) beginsStat() bool {
	return p.isName() || p.is("local", "if", "while", "for", "do", "break", "(")
}

// stats reads the statements of a block; behind a return there is none.
func (p *parser) stats() []api.Node {
	var l []api.Node
	for p.beginsStat() {
		l = append(l, p.stat())
		p.pass(";")
	}
	if p.is("return") {
		l = append(l, p.returned())
		p.pass(";")
	}
	return l
}

// stat reads a statement.
func (p *parser) stat() api.Node {
	at := p.word().At
	switch {
	case p.pass("local"):
		return p.local(at)
	case p.pass("if"):
		return p.branches(at)
	case p.pass("while"):
		return p.while(at)
	case p.pass("for"):
		return p.loop(at)
	case p.pass("do"):
		return api.Node{K: api.Do, At: at, L: []api.Node{p.ended()}}
	case p.pass("break"):
		return api.Node{K: api.Break, At: at}
	}
	return p.act(at)
}

// local reads what stands behind a local.
func (p *parser) local(at int) api.Node {
	n := api.Node{K: api.Local, At: at}
	if p.pass("function") {
		n.S, n.A = p.name().S, 1
		n.L = []api.Node{p.function(p.word().At)}
		return n
	}
	n.S = p.name().S
	if p.pass("=") {
		n.L = []api.Node{p.exp()}
	}
	return n
}

// branches reads what stands behind an if or an elseif. The word end that they share goes with the last one.
func (p *parser) branches(at int) api.Node {
	condition := p.exp()
	p.want("then")
	then := p.block(func() bool { return p.is("elseif", "else", "end") })
	return api.Node{K: api.If, At: at, L: []api.Node{condition, then, p.otherwise()}}
}

// otherwise reads the else's block of an if, whatever it is written as.
func (p *parser) otherwise() api.Node {
	at := p.word().At
	switch {
	case p.pass("elseif"):
		b := api.Node{K: api.Block, At: at}
		p.deeper(p.beginsExp, func() { b.L = []api.Node{p.branches(at)} })
		return b
	case p.pass("else"):
		return p.ended()
	}
	p.want("end")
	return api.Node{K: api.Block, At: at}
}

// while reads what stands behind a while.
func (p *parser) while(at int) api.Node {
	condition := p.exp()
	p.want("do")
	return api.Node{K: api.While, At: at, L: []api.Node{condition, p.ended()}}
}

// loop reads what stands behind a for.
func (p *parser) loop(at int) api.Node {
	name := p.name()
	p.want("=")
	from := p.exp()
	p.want(",")
	to := p.exp()
	step := api.Node{K: api.NumExp, At: p.word().At, N: api.Num(math.Float64bits(1))}
	if p.pass(",") {
		step = p.exp()
	}
	p.want("do")
	return api.Node{K: api.For, At: at, S: name.S, L: []api.Node{from, to, step, p.ended()}}
}

// returned reads a return.
func (p *parser) returned() api.Node {
	n := api.Node{K: api.Return, At: p.take().At}
	if p.beginsExp() {
		n.L = []api.Node{p.exp()}
	}
	return n
}

// act reads an assignment or a call.
func (p *parser) act(at int) api.Node {
	n := p.suffixed()
	switch n.K {
	case api.NameExp, api.Index:
		p.want("=")
		return api.Node{K: api.Assign, At: at, L: []api.Node{n, p.exp()}}
	case api.Call:
		return api.Node{K: api.CallStat, At: at, L: []api.Node{n}}
	}
	panic(p.fault(api.ErrForm))
}
