package comp_test

import (
	"math/rand"
	"reflect"
	"strings"
	"testing"

	"minstrel/api"
	"minstrel/comp"
	"minstrel/lex"
)

// relaid is a script with other blanks and comments between its words; none changes a word.
func relaid(t *testing.T, s string, blank func() string) string {
	tokens, _, e := lex.Words(s)
	if e != api.OK {
		t.Fatal(s, e)
	}
	var out strings.Builder
	for i, token := range tokens[:len(tokens)-1] {
		out.WriteString(blank() + strings.TrimRight(s[token.At:tokens[i+1].At], " \n\t\r"))
	}
	return out.String() + blank()
}

// P14.4: the same script again, other scripts between, and with other blanks and comments.
func TestAlwaysTheSame(t *testing.T) {
	r := rand.New(rand.NewSource(6))
	blanks := []string{" ", "\n", "\t", "\r", "  ", " \n ", " --\n", " -- a comment, \"end\" \n", " --[[\n", "\r\n\r\n", " ---- x = 1\n\t"}
	var before []string
	var protos []api.Proto
	for i := range 1500 {
		s := (&maker{r: r, wrong: 30}).script(1 + i%3)
		p, at, e := comp.Script(s)
		if at != 0 || e != api.OK {
			t.Fatal(s, at, e)
		}
		for _, other := range []string{
			s, s + "\n", s + " -- the end", "\t" + s, strings.Clone(s),
			relaid(t, s, func() string { return " " }),
			relaid(t, s, func() string { return "\n" }),
			relaid(t, s, func() string { return blanks[r.Intn(len(blanks))] }),
		} {
			q, at, e := comp.Script(other)
			if at != 0 || e != api.OK || !reflect.DeepEqual(p, q) {
				t.Fatalf("%s\nand\n%s\nare not the same: %d, %d", s, other, at, e)
			}
		}
		before, protos = append(before, s), append(protos, p)
	}
	for i, s := range before {
		if q, _, _ := comp.Script(s); !reflect.DeepEqual(q, protos[i]) {
			t.Fatalf("%s: not the same again", s)
		}
	}
}

// P14.4: brackets about exps, and ; behind statements, make no node, and so change nothing either.
func TestNoNodes(t *testing.T) {
	for a, b := range map[string]string{
		"return 1 + 2 * 3":                  "return ((1) + ((2 * 3)))",
		"local a = f(1) a = 2":              "local a = (f(1)); a = (2);",
		"return a or b and c .. d":          "return (a or (b and (c .. d)));",
		"t.x = {1, 2; x = 3}":               `t["x"] = {(1); (2), ["x"] = 3,}`,
		"if a then elseif b then x = 1 end": "if a then else if b then x = 1 else end end",
		"for i = 1, 2 do end":               "for i = 1, 2, 1 do end",
	} {
		p, _, e := comp.Script(a)
		q, _, f := comp.Script(b)
		if e != api.OK || f != api.OK || !reflect.DeepEqual(p, q) {
			t.Errorf("%s and %s: %d, %d", a, b, e, f)
		}
	}
}

// stretch is the memory of a list, its spare room too.
type stretch struct{ from, to uintptr }

func stretches(p api.Proto) []stretch {
	var all []stretch
	for _, l := range []any{p.Ups, p.Code, p.Consts, p.Protos} {
		v := reflect.ValueOf(l)
		if v.Cap() > 0 {
			all = append(all, stretch{v.Pointer(), v.Pointer() + uintptr(v.Cap())*v.Type().Elem().Size()})
		}
	}
	for _, in := range p.Protos {
		all = append(all, stretches(in)...)
	}
	return all
}

// P14.1 (Memory): no two lists of two answers share any memory.
func TestMemory(t *testing.T) {
	r := rand.New(rand.NewSource(7))
	for i := range 300 {
		s := (&maker{r: r}).script(1 + i%3)
		p, _, _ := comp.Script(s)
		q, _, _ := comp.Script(s)
		all := append(stretches(p), stretches(q)...)
		for i, a := range all {
			for _, b := range all[:i] {
				if a.from < b.to && b.from < a.to {
					t.Fatalf("%s: two lists share memory", s)
				}
			}
		}
	}
}
