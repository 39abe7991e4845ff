package scope

import (
	"slices"

	"minstrel/api"
)

// deepest is how many nodes lie in one another at most: more than any script has, and few enough to be gone through.
const deepest = 2 * api.MaxTokens

// marked is the A of the Local of a local function.
const marked = 1

// A sort tells whether a node may stand in some place.
type sort func(n api.Node) bool

// checkForm gives up if a tree is none that parse gives. Of the limits that a script keeps to it asks none but how deep nodes lie in one another.
func checkForm(n api.Node) {
	deep := 0
	var look func(n api.Node)
	look = func(n api.Node) {
		deep++
		if deep > deepest || !fits(n) || !signed(n) {
			panic(fault{0, api.ErrArg})
		}
		for _, part := range n.L {
			look(part)
		}
		deep--
	}
	if n.K != api.Block {
		panic(fault{0, api.ErrArg})
	}
	look(n)
}

// fits tells whether a node is of a kind that parse gives, and its parts are as many, and of such sorts.
func fits(n api.Node) bool {
	are := func(sorts ...sort) bool {
		return slices.EqualFunc(n.L, sorts, func(part api.Node, is sort) bool { return is(part) })
	}
	switch n.K {
	case api.Block:
		// Behind a return there is nothing.
		return lastIs(n.L, isStat, isStatOrReturn) || are()
	case api.Local:
		if n.A == marked {
			return are(isFunc)
		}
		return are() || are(isExp)
	case api.Assign:
		return are(isPlace, isExp)
	case api.CallStat:
		return are(isCall)
	case api.If:
		return are(isExp, isBlock, isBlock)
	case api.While:
		return are(isExp, isBlock)
	case api.For:
		return are(isExp, isExp, isExp, isBlock)
	case api.Return:
		return are() || are(isExp)
	case api.Do:
		return are(isBlock)
	case api.Un:
		return are(isExp)
	case api.Index, api.Bin, api.And, api.Or:
		return are(isExp, isExp)
	case api.Call:
		return lastIs(n.L, isExp, isExp)
	case api.FuncExp:
		return lastIs(n.L, isParam, isBlock)
	case api.Make:
		return lastIs(n.L, isItem, isItem) || are()
	case api.Item:
		return are(isExp) || are(isExp, isExp)
	case api.Break, api.NilExp, api.FalseExp, api.TrueExp, api.NumExp, api.TextExp, api.NameExp, api.Param:
		return are()
	}
	return false
}

// lastIs tells whether there is a last node, of its sort, and those ahead of it are of theirs.
func lastIs(l []api.Node, ahead, last sort) bool {
	end := len(l) - 1
	return end >= 0 && last(l[end]) && !slices.ContainsFunc(l[:end], func(n api.Node) bool { return !ahead(n) })
}

// signed tells whether a node has a sign, if it needs one, and one of its own.
func signed(n api.Node) bool {
	switch n.K {
	case api.Un:
		return n.S == "not" || n.S == "-" || n.S == "#"
	case api.Bin:
		switch n.S {
		case "<", ">", "<=", ">=", "~=", "==", "..", "+", "-", "*", "/", "%":
			return true
		}
		return false
	}
	return true
}

func isBlock(n api.Node) bool { return n.K == api.Block }
func isCall(n api.Node) bool  { return n.K == api.Call }
func isFunc(n api.Node) bool  { return n.K == api.FuncExp }
func isParam(n api.Node) bool { return n.K == api.Param }
func isItem(n api.Node) bool  { return n.K == api.Item }

// isPlace is of what can be assigned to.
func isPlace(n api.Node) bool { return n.K == api.NameExp || n.K == api.Index }

func isStat(n api.Node) bool { return isStatOrReturn(n) && n.K != api.Return }

func isStatOrReturn(n api.Node) bool { return api.Local <= n.K && n.K <= api.Do }

func isExp(n api.Node) bool {
	switch n.K {
	case api.Index, api.Call, api.FuncExp, api.Un, api.Bin, api.And, api.Or, api.Make:
		return true
	}
	return api.NilExp <= n.K && n.K <= api.NameExp
}
