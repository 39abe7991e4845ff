package comp_test

import (
	"math/rand"
	"reflect"
	"strings"
	"testing"

	"minstrel/api"
	"minstrel/comp"
)

// P14.1: scripts that can't be read, or whose names can't be found: the place and error by hand, and the zero Proto.
func TestRefused(t *testing.T) {
	locals := strings.Repeat("local a ", 200)
	for _, c := range []struct {
		s  string
		at int
		e  api.Errno
	}{
		{"local a, b", 7, api.ErrForm},
		{"return return", 7, api.ErrForm},
		{"return 1 1", 9, api.ErrForm},
		{"x", 1, api.ErrForm},
		{"f() = 1", 4, api.ErrForm},
		{"if a then", 9, api.ErrForm},
		{"x = 1e", 5, api.ErrForm},
		{`x = "a`, 4, api.ErrForm},
		{`x = "\q"`, 5, api.ErrForm},
		{"x = ?", 4, api.ErrForm},
		{"\x00", 0, api.ErrForm},
		{";", 0, api.ErrForm},
		{"end", 0, api.ErrForm},
		{"break", 0, api.ErrState},
		{"a = 1 break", 6, api.ErrState},
		{"while a do f(function() break end) end", 24, api.ErrState},
		{"while a do end break", 15, api.ErrState},
		{"local function f() break end", 19, api.ErrState},
		{locals + "local b", len(locals), api.ErrLong},
		{locals + "for i = 1, 2 do end", len(locals), api.ErrLong},
		{"x = 1" + strings.Repeat("0", 400), 4, api.ErrLong},
		{`x = "` + strings.Repeat("a", 16385) + `"`, 4, api.ErrLong},
		{strings.Repeat(" ", 65537), 0, api.ErrLong},
		{"break x", 7, api.ErrForm},
	} {
		p, at, e := comp.Script(c.s)
		if at != c.at || e != c.e || !reflect.DeepEqual(p, api.Proto{}) {
			t.Errorf("%.100q: %v, %d, %d; want %d, %d", c.s, p, at, e, c.at, c.e)
		}
		mustTell(t, c.s)
	}
}

// P14.1, P14.2: any bytes, any words, and scripts in which something is changed: no call panics, and what is refused is refused as scope does.
func TestAnything(t *testing.T) {
	r := rand.New(rand.NewSource(5))
	words := strings.Fields("and break do else elseif end false for function if local nil not or return then true while .. == ~= <= >= + - * / % = < > ( ) { } [ ] , ; . # a b c 1 2.5 \"x\" -- \"")
	taken := 0
	try := func(s string) {
		if _, ok := mustTell(t, s); ok {
			taken++
		}
	}
	for i := range 60000 {
		b := make([]byte, r.Intn(12))
		for j := range b {
			b[j] = byte(r.Intn(256))
		}
		try(string(b))
		var s strings.Builder
		for range r.Intn(8) {
			s.WriteString(words[r.Intn(len(words))] + " ")
		}
		try(s.String())
		if i%20 == 0 {
			try(changed(r, (&maker{r: r}).script(1+i%3), words))
		}
	}
	if taken < 5000 {
		t.Error(taken)
	}
}

// changed is a script in which some bytes are gone, doubled, or a word.
func changed(r *rand.Rand, s string, words []string) string {
	i := r.Intn(len(s))
	j := min(len(s), i+r.Intn(6))
	switch r.Intn(4) {
	case 0:
		return s[:i] + s[j:]
	case 1:
		return s[:j] + s[i:]
	case 2:
		return s[:i]
	}
	return s[:i] + " " + words[r.Intn(len(words))] + " " + s[j:]
}
