package prog

import "minstrel/api"

// operand is what the number of an operand counts, and so how great it may be.
type operand int

const (
	unused   operand = iota // it plays no part
	register                // one of the function's registers
	three                   // a register with two more behind it
	constant                // one of the function's constants
	up                      // one of the function's ups
	out                     // a place among the function's orders
	many                    // how many registers behind that of A
	within                  // one of the functions within
)

// order is what the machine and its readers know of an order.
type order struct {
	name     string
	cost     int
	operands [3]operand
}

var orders = [...]order{
	api.OpConst:     {"const", 1, [3]operand{register, constant}},
	api.OpMove:      {"move", 1, [3]operand{register, register}},
	api.OpShift:     {"shift", 0, [3]operand{register, register}},
	api.OpClear:     {"clear", 0, [3]operand{register}},
	api.OpNewBox:    {"newbox", 0, [3]operand{register, register}},
	api.OpGetBox:    {"getbox", 1, [3]operand{register, register}},
	api.OpSetBox:    {"setbox", 1, [3]operand{register, register}},
	api.OpGetUp:     {"getup", 1, [3]operand{register, up}},
	api.OpSetUp:     {"setup", 1, [3]operand{up, register}},
	api.OpGetGlobal: {"getglobal", 1, [3]operand{register, constant}},
	api.OpSetGlobal: {"setglobal", 1, [3]operand{constant, register}},
	api.OpIndex:     {"index", 1, [3]operand{register, register, register}},
	api.OpSetIndex:  {"setindex", 1, [3]operand{register, register, register}},
	api.OpMake:      {"make", 1, [3]operand{register}},
	api.OpNot:       {"not", 1, [3]operand{register, register}},
	api.OpNeg:       {"neg", 1, [3]operand{register, register}},
	api.OpLen:       {"len", 1, [3]operand{register, register}},
	api.OpAdd:       {"add", 1, [3]operand{register, register, register}},
	api.OpSub:       {"sub", 1, [3]operand{register, register, register}},
	api.OpMul:       {"mul", 1, [3]operand{register, register, register}},
	api.OpDiv:       {"div", 1, [3]operand{register, register, register}},
	api.OpMod:       {"mod", 1, [3]operand{register, register, register}},
	api.OpConcat:    {"concat", 1, [3]operand{register, register, register}},
	api.OpEq:        {"eq", 1, [3]operand{register, register, register}},
	api.OpNe:        {"ne", 1, [3]operand{register, register, register}},
	api.OpLt:        {"lt", 1, [3]operand{register, register, register}},
	api.OpLe:        {"le", 1, [3]operand{register, register, register}},
	api.OpGt:        {"gt", 1, [3]operand{register, register, register}},
	api.OpGe:        {"ge", 1, [3]operand{register, register, register}},
	api.OpJump:      {"jump", 0, [3]operand{out}},
	api.OpJumpIf:    {"jumpif", 0, [3]operand{register, out}},
	api.OpJumpNot:   {"jumpnot", 0, [3]operand{register, out}},
	api.OpCall:      {"call", 1, [3]operand{register, many}},
	api.OpReturn:    {"return", 1, [3]operand{register}},
	api.OpEnd:       {"end", 0, [3]operand{}},
	api.OpClosure:   {"closure", 1, [3]operand{register, within}},
	api.OpForCheck:  {"forcheck", 1, [3]operand{three, out}},
	api.OpForStep:   {"forstep", 1, [3]operand{three, out}},
}

// orderOf is the table's row of op, if there is one.
func orderOf(op int) (order, bool) {
	if op < 0 || op >= len(orders) {
		return order{name: "none"}, false
	}
	return orders[op], true
}

// Cost is what an order costs that goes on behind itself: a jump back costs more, which the machine knows.
func Cost(op int) int {
	row, _ := orderOf(op)
	return row.cost
}

// Name is what Print calls an order.
func Name(op int) string {
	row, _ := orderOf(op)
	return row.name
}
