package comp_test

import (
	"math/rand"
	"strconv"
	"strings"
)

// maker writes scripts by chance. A name's first letter tells what it mostly is: n a number, t a table, f a function, so that scripts go on for a while ahead of their first error.
type maker struct {
	r     *rand.Rand
	loops int
	wrong int // one exp of so many is of another sort
}

// ahead gives each name a global variable of its sort.
const ahead = `n0 = 3 n1 = 5 n2 = 1 t0 = {4, 5, 6, n = 7} t1 = {} t2 = {t0, 2}
f0 = function(n0, n1) return n0 end f1 = function(n1) n2 = n2 + 1 return n1 or 9 end f2 = function() return 8 end
`

func (m *maker) one(of ...string) string { return of[m.r.Intn(len(of))] }

func (m *maker) name(sort string) string { return sort + strconv.Itoa(m.r.Intn(3)) }

// script is a whole one.
func (m *maker) script(room int) string {
	s := m.block(room)
	if m.r.Intn(4) > 0 {
		s = "note(pcall(function() " + s + " end)[2]) " + m.block(room)
	}
	return ahead + s
}

func (m *maker) block(room int) string {
	var s strings.Builder
	for range 1 + m.r.Intn(4) {
		s.WriteString(m.stat(room-1) + m.one(" ", " ", "; "))
	}
	switch m.r.Intn(8) {
	case 0:
		s.WriteString("return " + m.any(room-1))
	case 1:
		s.WriteString(m.one("return", "return;", "return "+m.any(room-1)+";"))
	case 2, 3:
		if m.loops > 0 {
			s.WriteString(m.one("break", "break;", "break note(1)"))
		}
	}
	return s.String()
}

func (m *maker) looped(room int) string {
	m.loops++
	defer func() { m.loops-- }()
	return m.block(room)
}

// stat is a statement. (What begins with a bracket stands behind a ; since else it would be arguments.)
func (m *maker) stat(room int) string {
	if room <= 0 {
		return m.small(room)
	}
	switch m.r.Intn(14) {
	case 0:
		return "if " + m.truth(room) + " then " + m.block(room) + " end"
	case 1:
		return "if " + m.truth(room) + " then " + m.block(room) + " else " + m.block(room) + " end"
	case 2:
		return "if " + m.truth(room) + " then " + m.block(room) + " elseif " + m.truth(room) + " then " + m.block(room) + m.one(" end", " else "+m.block(room)+" end")
	case 3:
		return "while " + m.truth(room) + " do " + m.looped(room) + " end"
	case 4:
		n := m.name("n")
		return "do local " + n + " = 0 while " + n + " < 3 do " + n + " = " + n + " + 1 " + m.looped(room) + " end end"
	case 5, 6:
		return "for " + m.name("n") + " = " + m.number(room) + ", " + m.number(room) + m.one("", ", "+m.number(room), ", -1", ", 2") + " do " + m.looped(room) + " end"
	case 7:
		return "do " + m.block(room) + " end"
	case 8, 9:
		return "local function " + m.name("f") + m.body(room)
	case 10:
		if m.loops > 0 {
			return "if " + m.truth(room) + " then break end"
		}
	case 11:
		return "local " + m.name("f") + " = function" + m.body(room)
	}
	return m.small(room)
}

// small is a statement without a block.
func (m *maker) small(room int) string {
	switch m.r.Intn(14) {
	case 0, 1:
		return "local " + m.name("n") + " = " + m.number(room)
	case 2:
		return "local " + m.name("t") + " = " + m.table(room)
	case 3:
		return "local " + m.name("f") + " = " + m.function(room)
	case 4, 5:
		return m.name("n") + " = " + m.number(room)
	case 6:
		return m.name("t") + m.one(" = ", ".x = ", "[1] = ") + m.table(room)
	case 7:
		return m.name("f") + " = " + m.function(room)
	case 8:
		return m.name("t") + "[" + m.any(room) + "] = " + m.any(room)
	case 9:
		return "note();(" + m.table(room) + ")." + m.one("x", "n", "y") + " = " + m.any(room)
	case 10:
		if m.r.Intn(4) == 0 {
			return "local " + m.name(m.one("n", "t", "f"))
		}
		return "error(" + m.any(room) + ")"
	}
	return "note(" + m.any(room) + m.one("", ", "+m.any(room)) + ")"
}

// body is a function's, from its bracket on.
func (m *maker) body(room int) string {
	loops := m.loops
	m.loops = 0
	defer func() { m.loops = loops }()
	params := m.one("", "n0", "n0, n1", "n1, t0", "f0, n2", "n2, n2")
	if m.r.Intn(2) == 0 {
		return "(" + params + ") " + m.block(room) + " end"
	}
	return "(" + params + ") do " + m.block(room) + " end return " + m.number(room-1) + " end"
}

func (m *maker) any(room int) string {
	switch m.r.Intn(6) {
	case 0:
		return m.table(room)
	case 1:
		return m.function(room)
	case 2:
		return m.truth(room)
	case 3:
		return m.text(room)
	}
	return m.number(room)
}

// astray is an exp of any sort, now and then, where one of another is asked for.
func (m *maker) astray() (string, bool) {
	if m.wrong == 0 || m.r.Intn(m.wrong) > 0 {
		return "", false
	}
	return m.one("nil", "true", `"a"`, "{}", "-1", "0", "n0", "t0", "f0", "g", "function() end"), true
}

func (m *maker) number(room int) string {
	if s, ok := m.astray(); ok {
		return s
	}
	if room <= 0 {
		return m.one(m.name("n"), m.name("n"), strconv.Itoa(m.r.Intn(5)), "1", "2.5")
	}
	a, b := func() string { return m.number(room - 2) }, func() string { return m.number(room - 1) }
	switch m.r.Intn(12) {
	case 0, 1:
		return "(" + a() + m.one(" + ", " - ", " * ", " / ", " % ") + b() + ")"
	case 2:
		return a() + m.one(" + ", " - ", " * ", " / ", " % ") + b()
	case 3:
		return m.one("-", "- -") + m.name("n")
	case 4:
		return "#" + m.one(m.name("t"), `"abc"`, "{1, 2}")
	case 5, 6:
		return m.name("f") + "(" + m.one("", a(), a()+", "+b(), a()+", "+b()+", "+a()) + ")"
	case 7:
		return "(" + m.name("t") + "[" + a() + "] or " + b() + ")"
	case 8:
		return "(" + m.truth(room-1) + " and " + a() + " or " + b() + ")"
	case 9:
		return "note(" + b() + ")"
	case 10:
		return "(function" + m.body(room-2) + ")(" + a() + ", " + b() + ")"
	}
	return m.number(0)
}

func (m *maker) truth(room int) string {
	if room <= 0 {
		return m.one("true", "false", "nil", "n0 < n1", "n2 > 3")
	}
	a, b := func() string { return m.number(room - 1) }, func() string { return m.number(room - 1) }
	switch m.r.Intn(6) {
	case 0:
		return "not (" + m.truth(room-1) + ")"
	case 1:
		return "(" + m.truth(room-1) + m.one(" and ", " or ") + m.truth(room-1) + ")"
	case 2:
		return m.one(m.name("t"), m.name("f"), a()) + m.one(" == ", " ~= ") + m.any(room-1)
	case 3:
		return m.text(room-1) + m.one(" < ", " <= ", " > ", " >= ") + m.text(room-1)
	}
	return a() + m.one(" < ", " <= ", " > ", " >= ", " == ", " ~= ") + b()
}

func (m *maker) text(room int) string {
	if s, ok := m.astray(); ok {
		return s
	}
	if room <= 0 || m.r.Intn(2) == 0 {
		return m.one(`"a"`, `"bc"`, `""`, `"x"`, `"n0"`)
	}
	return "(" + m.one(m.text(room-1), m.number(room-1)) + " .. " + m.text(room-1) + ")"
}

func (m *maker) table(room int) string {
	if s, ok := m.astray(); ok {
		return s
	}
	if room <= 0 || m.r.Intn(3) == 0 {
		return m.name("t")
	}
	var items []string
	for range m.r.Intn(4) {
		items = append(items, m.one("", "x = ", "n = ", "["+m.any(room-1)+"] = ", "")+m.any(room-1))
	}
	s := strings.Join(items, m.one(", ", "; "))
	if s != "" {
		s += m.one("", ",", ";")
	}
	return "{" + s + "}"
}

func (m *maker) function(room int) string {
	if s, ok := m.astray(); ok {
		return s
	}
	if room <= 0 || m.r.Intn(3) == 0 {
		return m.name("f")
	}
	return "function" + m.body(room-1)
}
