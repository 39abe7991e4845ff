package parse

import "minstrel/api"

// How tightly signs between two exps bind; below loosest are words that stand between none.
const (
	loosest = iota + 1
	ofAnd
	ofOrder
	ofJoin
	ofSum
	ofProduct
)

// tightness is how tightly a token binds what stands on both sides of it.
func tightness(w api.Token) int {
	if w.K != api.TokWord {
		return 0
	}
	switch w.S {
	case "or":
		return loosest
	case "and":
		return ofAnd
	case "<", ">", "<=", ">=", "~=", "==":
		return ofOrder
	case "..":
		return ofJoin
	case "+", "-":
		return ofSum
	case "*", "/", "%":
		return ofProduct
	}
	return 0
}

// beginsExp tells whether an exp may begin here.
func (p *parser) beginsExp() bool {
	switch p.word().K {
	case api.TokName, api.TokNum, api.TokText:
		return true
	}
	return p.is("nil", "false", "true", "function", "{", "(", "not", "-", "#")
}

// exp reads an exp.
func (p *parser) exp() api.Node {
	return p.joined(loosest)
}

// joined reads an exp whose signs, but those in brackets, bind at least so tightly.
func (p *parser) joined(least int) api.Node {
	left := p.signed()
	for {
		sign := p.word()
		tight := tightness(sign)
		if tight < least {
			return left
		}
		p.take()
		left = between(sign, left, p.rightOf(tight))
	}
}

// rightOf reads the right side of a sign. Of those that bind alike .. alone takes more of its own kind to the right, where each of them lies deeper.
func (p *parser) rightOf(tight int) api.Node {
	if tight != ofJoin {
		return p.joined(tight + 1)
	}
	var right api.Node
	p.deeper(p.beginsExp, func() { right = p.joined(tight) })
	return right
}

// between is the node of a sign between two exps.
func between(sign api.Token, left, right api.Node) api.Node {
	n := api.Node{K: api.Bin, At: sign.At, S: sign.S, L: []api.Node{left, right}}
	switch sign.S {
	case "and":
		n.K, n.S = api.And, ""
	case "or":
		n.K, n.S = api.Or, ""
	}
	return n
}

// signed reads a simple exp, with the signs ahead of it.
func (p *parser) signed() api.Node {
	if !p.is("not", "-", "#") {
		return p.simple()
	}
	sign := p.take()
	n := api.Node{K: api.Un, At: sign.At, S: sign.S}
	p.deeper(p.beginsExp, func() { n.L = []api.Node{p.signed()} })
	return n
}

// simple reads an exp without signs.
func (p *parser) simple() api.Node {
	w := p.word()
	switch {
	case w.K == api.TokNum:
		return api.Node{K: api.NumExp, At: p.take().At, N: w.N}
	case w.K == api.TokText:
		return textOf(p.take())
	case p.pass("nil"):
		return api.Node{K: api.NilExp, At: w.At}
	case p.pass("false"):
		return api.Node{K: api.FalseExp, At: w.At}
	case p.pass("true"):
		return api.Node{K: api.TrueExp, At: w.At}
	case p.pass("function"):
		return p.function(w.At)
	case p.pass("{"):
		return p.table(w.At)
	}
	return p.suffixed()
}

// textOf is the node of a token as a text.
func textOf(w api.Token) api.Node {
	return api.Node{K: api.TextExp, At: w.At, S: w.S}
}

// function reads a function's parameters and its block.
func (p *parser) function(at int) api.Node {
	p.want("(")
	l := p.list(p.isName, func() api.Node {
		w := p.name()
		return api.Node{K: api.Param, At: w.At, S: w.S}
	})
	return api.Node{K: api.FuncExp, At: at, L: append(l, p.ended())}
}

// suffixed reads a name or an exp in brackets, and whatever of indices and calls stands behind it.
func (p *parser) suffixed() api.Node {
	n := p.first()
	for {
		at := p.word().At
		switch {
		case p.pass("["):
			n = api.Node{K: api.Index, At: at, L: []api.Node{n, p.bracketed("]")}}
		case p.pass("."):
			n = api.Node{K: api.Index, At: at, L: []api.Node{n, textOf(p.name())}}
		case p.pass("("):
			n = api.Node{K: api.Call, At: at, L: append([]api.Node{n}, p.arguments()...)}
		default:
			return n
		}
	}
}

// first reads what indices and calls may stand behind.
func (p *parser) first() api.Node {
	if p.pass("(") {
		return p.bracketed(")")
	}
	w := p.name()
	return api.Node{K: api.NameExp, At: w.At, S: w.S}
}

// bracketed reads an exp behind an opening bracket, and the closing one.
func (p *parser) bracketed(end string) api.Node {
	var n api.Node
	p.deeper(p.beginsExp, func() { n = p.exp() })
	p.want(end)
	return n
}

// arguments reads those of a call behind the opening bracket, and the closing one.
func (p *parser) arguments() []api.Node {
	var l []api.Node
	may := func() bool { return p.beginsExp() || p.is(")") }
	p.deeper(may, func() { l = p.list(p.beginsExp, p.exp) })
	return l
}

// table reads a table's items behind the opening bracket, and the closing one.
func (p *parser) table(at int) api.Node {
	n := api.Node{K: api.Make, At: at}
	may := func() bool { return p.beginsExp() || p.is("[", "}") }
	p.deeper(may, func() {
		for !p.is("}") {
			n.L = append(n.L, p.item())
			if !p.pass(",") && !p.pass(";") {
				break
			}
		}
	})
	p.want("}")
	return n
}

// item reads an item of a table.
func (p *parser) item() api.Node {
	n := api.Node{K: api.Item, At: p.word().At}
	switch {
	case p.pass("["):
		key := p.exp()
		p.want("]")
		p.want("=")
		n.L = []api.Node{key, p.exp()}
	case p.isName() && p.isKey():
		key := textOf(p.take())
		p.want("=")
		n.L = []api.Node{key, p.exp()}
	default:
		n.L = []api.Node{p.exp()}
	}
	return n
}

// isKey tells whether behind the next token, which is not the end, there is a =.
func (p *parser) isKey() bool {
	behind := p.words[p.taken+1]
	return behind.K == api.TokWord && behind.S == "="
}
