package vm_test

import (
	"math/rand"
	"strconv"
	"strings"
)

// maker writes scripts by chance. A name's first letter tells what it mostly is: n a number, s a text, t a table, f a function, c a thread, so that scripts go on for a while ahead of their first error.
type maker struct {
	r     *rand.Rand
	loops int
	wrong int // one exp of so many is of another sort
}

// ahead gives each name a global variable of its sort.
const ahead = `log = {} note = function(x) log[#log + 1] = x return x end
n0 = 3 n1 = 5 n2 = 1 s0 = "abc" s1 = "x" s2 = "12" t0 = {4, 5, 6, n = 7} t1 = {} t2 = {t0, 2}
f0 = function(n0, n1) return n0 end f1 = function(n1) n2 = n2 + 1 return n1 or 9 end f2 = function(n0) return yield(n0) end
c0 = create(function(n0) while true do n0 = yield(n0) end end) c1 = create(f2) c2 = create(f1)
`

func (m *maker) one(of ...string) string { return of[m.r.Intn(len(of))] }

func (m *maker) name(sort string) string { return sort + strconv.Itoa(m.r.Intn(3)) }

// script is a whole one.
func (m *maker) script(room int) string {
	s := m.block(room)
	if m.r.Intn(4) > 0 {
		s = "note(pcall(function() " + s + " end)[2]) " + m.block(room)
	}
	return s
}

func (m *maker) block(room int) string {
	var s strings.Builder
	for range 1 + m.r.Intn(4) {
		s.WriteString(m.stat(room-1) + m.one(" ", " ", "; "))
	}
	switch m.r.Intn(8) {
	case 0:
		s.WriteString("return " + m.any(room-1))
	case 1:
		s.WriteString(m.one("return", "return;", "return "+m.any(room-1)+";"))
	case 2:
		if m.loops > 0 {
			s.WriteString(m.one("break", "break;", "break note(1)"))
		}
	}
	return s.String()
}

func (m *maker) looped(room int) string {
	m.loops++
	defer func() { m.loops-- }()
	return m.block(room)
}

// stat is a statement. (What begins with a bracket stands behind a ; since else it would be arguments.)
func (m *maker) stat(room int) string {
	if room <= 0 {
		return m.small(room)
	}
	switch m.r.Intn(16) {
	case 0:
		return "if " + m.truth(room) + " then " + m.block(room) + " end"
	case 1:
		return "if " + m.truth(room) + " then " + m.block(room) + " elseif " + m.truth(room) + " then " + m.block(room) + m.one(" end", " else "+m.block(room)+" end")
	case 2:
		return "while " + m.truth(room) + " do " + m.looped(room) + " end"
	case 3:
		n := m.name("n")
		return "do local " + n + " = 0 while " + n + " < 3 do " + n + " = " + n + " + 1 " + m.looped(room) + " end end"
	case 4, 5:
		return "for " + m.name("n") + " = " + m.number(room) + ", " + m.number(room) + m.one("", ", "+m.number(room), ", -1", ", 2") + " do " + m.looped(room) + " end"
	case 6:
		return "do " + m.block(room) + " end"
	case 7, 8:
		return "local function " + m.name("f") + m.body(room)
	case 9:
		if m.loops > 0 {
			return "if " + m.truth(room) + " then break end"
		}
	case 10:
		return "local " + m.name("f") + " = function" + m.body(room)
	case 11:
		return "note(pcall(function" + m.body(room) + ")[2])"
	case 12:
		return "do local c0 = create(function" + m.body(room) + ") note(resume(c0, " + m.any(room) + ")[2]) " + m.one("", "note(status(c0)) ", "note(resume(c0, n0)[2]) ") + m.block(room) + " end"
	}
	return m.small(room)
}

// small is a statement without a block.
func (m *maker) small(room int) string {
	switch m.r.Intn(16) {
	case 0, 1:
		return "local " + m.name("n") + " = " + m.number(room)
	case 2:
		return "local " + m.name("t") + " = " + m.table(room)
	case 3:
		return "local " + m.name("f") + " = " + m.function(room)
	case 4, 5:
		return m.name("n") + " = " + m.number(room)
	case 6:
		return m.name("t") + m.one(" = ", ".x = ", "[1] = ") + m.table(room)
	case 7:
		return m.name("f") + " = " + m.function(room)
	case 8:
		return m.name("t") + "[" + m.any(room) + "] = " + m.any(room)
	case 9:
		return m.one("local ", "") + m.name("c") + " = " + m.thread(room)
	case 10:
		switch m.r.Intn(6) {
		case 0:
			return "error(" + m.any(room) + ")"
		case 1:
			return "local " + m.name(m.one("n", "t", "f", "c", "s"))
		}
		return m.one("local ", "") + m.name("s") + " = " + m.text(room)
	case 11:
		return "yield(" + m.any(room) + ")"
	case 12:
		return "note(resume(" + m.thread(room) + ", " + m.any(room) + ")[2])"
	}
	return "note(" + m.any(room) + m.one("", ", "+m.any(room)) + ")"
}

// body is a function's, from its bracket on.
func (m *maker) body(room int) string {
	loops := m.loops
	m.loops = 0
	defer func() { m.loops = loops }()
	params := m.one("", "n0", "n0, n1", "n1, t0", "f0, n2", "n2, n2")
	if m.r.Intn(2) == 0 {
		return "(" + params + ") " + m.block(room) + " end"
	}
	return "(" + params + ") do " + m.block(room) + " end return " + m.any(room-1) + " end"
}

func (m *maker) any(room int) string {
	switch m.r.Intn(8) {
	case 0:
		return m.table(room)
	case 1:
		return m.function(room)
	case 2:
		return m.truth(room)
	case 3, 4:
		return m.text(room)
	case 5:
		return m.thread(room)
	}
	return m.number(room)
}

// astray is an exp of any sort, now and then, where one of another is asked for.
func (m *maker) astray() (string, bool) {
	if m.wrong == 0 || m.r.Intn(m.wrong) > 0 {
		return "", false
	}
	return m.one("nil", "true", `"a"`, "{}", "-1", "0", "0/0", "1/0", "n0", "s2", "t0", "f0", "c0", "g", "yield", "function() end"), true
}

func (m *maker) number(room int) string {
	if s, ok := m.astray(); ok {
		return s
	}
	if room <= 0 {
		return m.one(m.name("n"), m.name("n"), strconv.Itoa(m.r.Intn(5)), "1", "2.5")
	}
	a, b := func() string { return m.number(room - 2) }, func() string { return m.number(room - 1) }
	switch m.r.Intn(17) {
	case 0, 1:
		return "(" + a() + m.one(" + ", " - ", " * ", " / ", " % ") + b() + ")"
	case 2:
		return a() + m.one(" + ", " - ", " * ", " / ", " % ") + b()
	case 3:
		return m.one("-", "- -") + m.name("n")
	case 4:
		return "#" + m.one(m.name("t"), m.name("s"), "{1, 2}", "("+m.text(room-1)+")")
	case 5, 6:
		return m.name("f") + "(" + m.one("", a(), a()+", "+b(), a()+", "+b()+", "+a()) + ")"
	case 7:
		return "(" + m.name("t") + "[" + a() + "] or " + b() + ")"
	case 8:
		return "(" + m.truth(room-1) + " and " + a() + " or " + b() + ")"
	case 9:
		return "note(" + b() + ")"
	case 10:
		return "(function" + m.body(room-2) + ")(" + a() + ", " + b() + ")"
	case 11:
		return m.one("floor", "sqrt", "abs", "random", "tonumber") + "(" + b() + ")"
	case 12:
		return "resume(" + m.thread(room-1) + ", " + a() + ")[2]"
	case 13:
		return "pcall(" + m.function(room-1) + ", " + a() + m.one("", ", "+b()) + ")[2]"
	case 14:
		return m.one("yield("+b()+")", "random()", "byte("+m.text(room-1)+m.one("", ", "+a())+")")
	case 15:
		return "find(" + m.text(room-1) + ", " + m.text(room-1) + m.one("", ", "+a()) + ")"
	}
	return m.number(0)
}

func (m *maker) truth(room int) string {
	if room <= 0 {
		return m.one("true", "false", "nil", "n0 < n1", "n2 > 3")
	}
	a, b := func() string { return m.number(room - 1) }, func() string { return m.number(room - 1) }
	switch m.r.Intn(7) {
	case 0:
		return "not (" + m.truth(room-1) + ")"
	case 1:
		return "(" + m.truth(room-1) + m.one(" and ", " or ") + m.truth(room-1) + ")"
	case 2:
		return m.one(m.name("t"), m.name("f"), m.name("c"), a()) + m.one(" == ", " ~= ") + m.any(room-1)
	case 3:
		return m.text(room-1) + m.one(" < ", " <= ", " > ", " >= ") + m.text(room-1)
	case 4:
		return "pcall(" + m.function(room-1) + ")[1]"
	}
	return a() + m.one(" < ", " <= ", " > ", " >= ", " == ", " ~= ") + b()
}

func (m *maker) text(room int) string {
	if s, ok := m.astray(); ok {
		return s
	}
	if room <= 0 || m.r.Intn(2) == 0 {
		return m.one(`"a"`, `"bc"`, `""`, `"x"`, `"n0"`, m.name("s"), m.name("s"))
	}
	a, n := func() string { return m.text(room - 1) }, func() string { return m.number(room - 2) }
	switch m.r.Intn(8) {
	case 0:
		return "sub(" + a() + ", " + n() + m.one("", ", "+n()) + ")"
	case 1:
		return m.one("upper", "reverse") + "(" + a() + ")"
	case 2:
		return "rep(" + a() + ", " + n() + ")"
	case 3:
		return m.one("type", "tostring") + "(" + m.any(room-1) + ")"
	case 4:
		return m.one("status("+m.thread(room-1)+")", "char("+n()+")")
	}
	return "(" + m.one(a(), m.number(room-1)) + " .. " + a() + ")"
}

func (m *maker) table(room int) string {
	if s, ok := m.astray(); ok {
		return s
	}
	if room <= 0 || m.r.Intn(3) == 0 {
		return m.name("t")
	}
	switch m.r.Intn(9) {
	case 0:
		return "setmeta(" + m.table(room-1) + ", " + m.table(room-1) + ")"
	case 1:
		return "(getmeta(" + m.table(room-1) + ") or {})"
	case 2:
		return "pcall(" + m.function(room-1) + ", " + m.any(room-1) + ")"
	case 3:
		return "resume(" + m.thread(room-1) + ", " + m.any(room-1) + ")"
	}
	var items []string
	for range m.r.Intn(4) {
		items = append(items, m.one("", "x = ", "n = ", "["+m.any(room-1)+"] = ", "")+m.any(room-1))
	}
	s := strings.Join(items, m.one(", ", "; "))
	if s != "" {
		s += m.one("", ",", ";")
	}
	return "{" + s + "}"
}

func (m *maker) function(room int) string {
	if s, ok := m.astray(); ok {
		return s
	}
	if room <= 0 || m.r.Intn(3) == 0 {
		return m.one(m.name("f"), m.name("f"), m.one(libNames...))
	}
	return "function" + m.body(room-1)
}

func (m *maker) thread(room int) string {
	if s, ok := m.astray(); ok {
		return s
	}
	if room <= 0 || m.r.Intn(2) == 0 {
		return m.name("c")
	}
	return "create(" + m.function(room-1) + ")"
}
