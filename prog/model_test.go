package prog_test

import (
	"fmt"
	"reflect"
	"strings"

	"minstrel/api"
)

// chapter is the chapter's table: an order's number, its name, its operands in their order (R a register, K a constant, U an up, O a place, N how many, F a function), its cost.
const chapter = `
0 const RK 1
1 move RR 1
2 shift RR 0
3 clear R 0
4 newbox RR 0
5 getbox RR 1
6 setbox RR 1
7 getup RU 1
8 setup UR 1
9 getglobal RK 1
10 setglobal KR 1
11 index RRR 1
12 setindex RRR 1
13 make R 1
14 not RR 1
15 neg RR 1
16 len RR 1
17 add RRR 1
18 sub RRR 1
19 mul RRR 1
20 div RRR 1
21 mod RRR 1
22 concat RRR 1
23 eq RRR 1
24 ne RRR 1
25 lt RRR 1
26 le RRR 1
27 gt RRR 1
28 ge RRR 1
29 jump O 0
30 jumpif RO 0
31 jumpnot RO 0
32 call RN 1
33 return R 1
34 end . 0
35 closure RF 1
36 forcheck RO 1
37 forstep RO 1
`

// row is a line of the table.
type row struct {
	op       int
	name     string
	operands string
	cost     int
}

// rows are those of the table, whose numbers are those of their places.
func rows() []row {
	var all []row
	for _, line := range strings.Split(strings.TrimSpace(chapter), "\n") {
		var r row
		if _, err := fmt.Sscan(line, &r.op, &r.name, &r.operands, &r.cost); err != nil || r.op != len(all) {
			panic(line)
		}
		r.operands = strings.Trim(r.operands, ".")
		all = append(all, r)
	}
	return all
}

var byNumber = rows()

// placed is a function where it lies: which of all it is, the one about it (none of the whole script), in how many it lies.
type placed struct {
	p     api.Proto
	about *api.Proto
	in    int
}

// allOf are all functions of p, each ahead of those within: what is still to be told lies on a pile, its first on top.
func allOf(p api.Proto) []placed {
	var all []placed
	pile := []placed{{p, nil, 0}}
	for len(pile) > 0 {
		top := pile[len(pile)-1]
		pile = pile[:len(pile)-1]
		all = append(all, top)
		for i := len(top.p.Protos) - 1; i >= 0; i-- {
			pile = append(pile, placed{top.p.Protos[i], &top.p, top.in + 1})
		}
	}
	return all
}

// checkByWords is Check by the words of P13.1.
func checkByWords(p api.Proto) api.Errno {
	for i, f := range allOf(p) {
		if f.p.Regs > 4096 || len(f.p.Code) > 131072 || len(f.p.Consts) > 131072 || len(f.p.Ups) > 60 || f.in > 100 || i+1 > 4096 {
			return api.ErrLong
		}
		if f.p.Params < 0 || f.p.Params > 30 || f.p.Params > f.p.Regs || f.p.Regs < 0 {
			return api.ErrArg
		}
		if !constsByWords(f.p.Consts) || !codeByWords(f.p) || !upsByWords(f) {
			return api.ErrArg
		}
	}
	return api.OK
}

func constsByWords(l []api.Value) bool {
	for _, v := range l {
		switch {
		case v.O != 0, v.K < 0, v.K > 4, v.K != 3 && v.N != 0, v.K != 4 && v.S != "":
			return false
		case v.N<<1 > 0x7ff<<53 && v.N != 0x7ff8000000000000:
			return false // a NaN that is not the one
		}
	}
	return true
}

func codeByWords(p api.Proto) bool {
	if len(p.Code) == 0 {
		return false
	}
	if op := p.Code[len(p.Code)-1].Op; op != 29 && op != 33 && op != 34 {
		return false
	}
	for _, in := range p.Code {
		if !orderByWords(p, in) {
			return false
		}
	}
	return true
}

func orderByWords(p api.Proto, in api.Instr) bool {
	if in.Op < 0 || in.Op > 37 {
		return false
	}
	limits := map[rune]int{'R': p.Regs, 'K': len(p.Consts), 'U': len(p.Ups), 'O': len(p.Code), 'N': 31, 'F': len(p.Protos)}
	given := []int{in.A, in.B, in.C}
	for i, letter := range byNumber[in.Op].operands {
		if given[i] < 0 || given[i] >= limits[letter] {
			return false
		}
	}
	switch in.Op {
	case 32:
		return in.A+in.B < p.Regs
	case 36, 37:
		return in.A+2 < p.Regs
	}
	return true
}

func upsByWords(f placed) bool {
	if f.about == nil {
		return len(f.p.Ups) == 0
	}
	for _, u := range f.p.Ups {
		if u.At < 0 || u.Own && u.At >= f.about.Regs || !u.Own && u.At >= len(f.about.Ups) {
			return false
		}
	}
	return true
}

// flatByWords is Flat by the words of P13.2, in the model's own order.
func flatByWords(p api.Proto) []api.Proto {
	var all []api.Proto
	for _, f := range allOf(p) {
		all = append(all, f.p)
	}
	return all
}

func num(n int) api.Cell          { return api.Cell{K: 0, N: uint64(n)} }
func text(s string) api.Cell      { return api.Cell{K: 1, S: s} }
func many(l ...api.Cell) api.Cell { return api.Cell{K: 2, L: l} }

// cellByWords is ToCell by the words of P13.2.
func cellByWords(p api.Proto) api.Cell {
	ups, orders, consts, protos := many(), many(), many(), many()
	for _, u := range p.Ups {
		own := map[bool]int{true: 1}[u.Own]
		ups.L = append(ups.L, many(num(own), num(u.At)))
	}
	for _, in := range p.Code {
		orders.L = append(orders.L, many(num(in.Op), num(in.A), num(in.B), num(in.C)))
	}
	for _, v := range p.Consts {
		c := many(num(v.K))
		if v.K == 3 {
			c.L = append(c.L, api.Cell{N: uint64(v.N)})
		}
		if v.K == 4 {
			c.L = append(c.L, text(v.S))
		}
		consts.L = append(consts.L, c)
	}
	for _, in := range p.Protos {
		protos.L = append(protos.L, cellByWords(in))
	}
	return many(num(p.Params), num(p.Regs), ups, orders, consts, protos)
}

// part is the i-th cell of a list, or any other, if there is none.
func part(c api.Cell, i int) api.Cell {
	if i < len(c.L) {
		return c.L[i]
	}
	return api.Cell{K: 5}
}

// guess is the one function of which ToCell could tell c: whatever is wrong in c is passed over.
func guess(c api.Cell) api.Proto {
	p := api.Proto{Params: int(part(c, 0).N), Regs: int(part(c, 1).N)}
	for _, u := range part(c, 2).L {
		p.Ups = append(p.Ups, api.Up{Own: part(u, 0).N == 1, At: int(part(u, 1).N)})
	}
	for _, in := range part(c, 3).L {
		p.Code = append(p.Code, api.Instr{Op: int(part(in, 0).N), A: int(part(in, 1).N), B: int(part(in, 2).N), C: int(part(in, 3).N)})
	}
	for _, v := range part(c, 4).L {
		k := int(part(v, 0).N)
		switch k {
		case 3:
			p.Consts = append(p.Consts, api.Value{K: k, N: api.Num(part(v, 1).N)})
		case 4:
			p.Consts = append(p.Consts, api.Value{K: k, S: part(v, 1).S})
		default:
			p.Consts = append(p.Consts, api.Value{K: k})
		}
	}
	for _, in := range part(c, 5).L {
		p.Protos = append(p.Protos, guess(in))
	}
	return p
}

// fromByWords is FromCell by the words of P13.2: ToCell must tell c of what was guessed, which Check must take, with operands that are all from 0 to MaxCode.
func fromByWords(c api.Cell) (api.Proto, api.Errno) {
	p := guess(c)
	if !sameCell(cellByWords(p), c) || checkByWords(p) != api.OK || !smallByWords(p) {
		return api.Proto{}, api.ErrForm
	}
	return p, api.OK
}

// smallByWords: all operands, also those that play no part, are from 0 to MaxCode.
func smallByWords(p api.Proto) bool {
	for _, f := range allOf(p) {
		for _, in := range f.p.Code {
			for _, x := range []int{in.A, in.B, in.C} {
				if x < 0 || x > 131072 {
					return false
				}
			}
		}
	}
	return true
}

// sameCell: the fields that a cell's kind doesn't name play no part (P7.1).
func sameCell(a, b api.Cell) bool {
	if a.K != b.K || a.K == 0 && a.N != b.N || a.K == 1 && a.S != b.S || a.K == 2 && len(a.L) != len(b.L) || a.K > 2 || a.K < 0 {
		return false
	}
	for i := range a.L {
		if a.K == 2 && !sameCell(a.L[i], b.L[i]) {
			return false
		}
	}
	return true
}

// printByWords is Print by the words of P13.2.
func printByWords(p api.Proto) string {
	var lines []string
	for at, in := range p.Code {
		words := []string{fmt.Sprint(at), "none"}
		if in.Op >= 0 && in.Op < len(byNumber) {
			words[1] = byNumber[in.Op].name
			for i := range byNumber[in.Op].operands {
				words = append(words, fmt.Sprint([]int{in.A, in.B, in.C}[i]))
			}
		}
		lines = append(lines, strings.Join(words, " ")+"\n")
	}
	for i, in := range p.Protos {
		lines = append(lines, fmt.Sprintf("function %d\n", i), printByWords(in))
	}
	return strings.Join(lines, "")
}

// nextByWords are the places at which the machine may go on behind the order at this place, by the chapter's last column.
func nextByWords(code []api.Instr, at int) []int {
	in := code[at]
	switch in.Op {
	case api.OpReturn, api.OpEnd:
		return nil
	case api.OpJump:
		return []int{in.A}
	case api.OpJumpIf, api.OpJumpNot, api.OpForCheck, api.OpForStep:
		return []int{at + 1, in.B}
	}
	return []int{at + 1}
}

// tidy is p in new memory, whose empty lists are nil.
func tidy(p api.Proto) api.Proto {
	p.Ups = append([]api.Up(nil), p.Ups...)
	p.Code = append([]api.Instr(nil), p.Code...)
	p.Consts = append([]api.Value(nil), p.Consts...)
	var within []api.Proto
	for _, in := range p.Protos {
		within = append(within, tidy(in))
	}
	p.Protos = within
	return p
}

func alike(a, b api.Proto) bool { return reflect.DeepEqual(tidy(a), tidy(b)) }

// tidyCell is c in new memory, whose empty lists are nil.
func tidyCell(c api.Cell) api.Cell {
	var l []api.Cell
	for _, part := range c.L {
		l = append(l, tidyCell(part))
	}
	c.L = l
	return c
}

func alikeCells(a, b api.Cell) bool { return reflect.DeepEqual(tidyCell(a), tidyCell(b)) }
