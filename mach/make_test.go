package mach_test

import (
	"math/rand"
	"strconv"
	"strings"
)

// maker makes scripts by chance that work on what others left.
type maker struct {
	r     *rand.Rand
	loc   []string // the local variables that are there
	depth int
}

// script is one of some statements.
func script(r *rand.Rand) string {
	m := &maker{r: r}
	var b strings.Builder
	for range r.Intn(3) {
		b.WriteString(m.local() + " ")
	}
	for range 1 + r.Intn(5) {
		b.WriteString(m.stat() + " ")
	}
	if r.Intn(3) == 0 {
		b.WriteString("return " + m.exp())
	}
	return b.String()
}

func (m *maker) pick(l ...string) string { return l[m.r.Intn(len(l))] }

// global is the name of a global variable; now and then that of a built-in function.
func (m *maker) global() string {
	if m.r.Intn(25) == 0 {
		return m.pick("reverse", "upper", "abs", "sqrt")
	}
	return m.pick("a", "b", "c", "d", "e")
}

// name is a variable.
func (m *maker) name() string {
	if len(m.loc) > 0 && m.r.Intn(3) > 0 {
		return m.loc[m.r.Intn(len(m.loc))]
	}
	return m.global()
}

func (m *maker) key() string {
	return m.pick("1", "2", "3", `"k"`, `"l"`, "true", "0.5", "-0", m.name(), m.name())
}

func (m *maker) leaf() string {
	return m.pick("nil", "true", "false", "0", "-0", "1.5", "0/0", "1/0", `"x"`, `""`, `"a\nb"`, "random(9)", "random()", "abs", "{}", m.name(), m.name(), m.name(), strconv.Itoa(m.r.Intn(99)))
}

// exp is an exp that is mostly no error.
func (m *maker) exp() string {
	if m.depth > 3 || m.r.Intn(4) == 0 {
		return m.leaf()
	}
	m.depth++
	defer func() { m.depth-- }()
	switch m.r.Intn(13) {
	case 0:
		return "{" + m.exp() + ", k = " + m.exp() + "}"
	case 1:
		return "{[" + m.pick("1", "2", `"k"`, "true", "{}", "abs") + "] = " + m.exp() + "}"
	case 2, 3, 4:
		return m.function()
	case 5:
		return "create(" + m.function() + ")"
	case 6:
		return "setmeta({}, " + m.pick("{}", "nil", "getmeta({})", "setmeta({}, {k = 5})") + ")"
	case 7:
		return "pcall(" + m.name() + ", " + m.exp() + ")"
	case 8:
		return "pcall(resume, " + m.name() + ")[2]"
	case 9:
		return "(type(" + m.name() + ") == \"table\" and " + m.name() + ")"
	case 10:
		return "tostring(" + m.exp() + ") .. " + m.pick(`"y"`, "1")
	case 11:
		return "create(" + m.pick("abs", "type", "yield", "create") + ")"
	}
	return "pcall(next, " + m.name() + ")[2]"
}

// function is a function of a parameter or none, which shares what variables there are.
func (m *maker) function() string {
	was := m.loc
	defer func() { m.loc = was }()
	m.loc = append([]string(nil), was...)
	param := ""
	if m.r.Intn(2) == 0 {
		param = "p" + strconv.Itoa(m.r.Intn(3))
		m.loc = append(m.loc, param)
	}
	body := ""
	for range m.r.Intn(3) {
		if m.depth <= 3 {
			m.depth++
			body += m.stat() + " "
			m.depth--
		}
	}
	return "function(" + param + ") " + body + "return " + m.exp() + " end"
}

// block is statements whose variables are gone behind it.
func (m *maker) block() string {
	was := m.loc
	defer func() { m.loc = was }()
	m.loc = append([]string(nil), was...)
	s := m.stat()
	if m.r.Intn(2) == 0 {
		s += " " + m.stat()
	}
	return s
}

// local is a local variable, which is there behind its value.
func (m *maker) local() string {
	e := m.exp()
	v := "v" + strconv.Itoa(m.r.Intn(5))
	m.loc = append(m.loc, v)
	return "local " + v + " = " + e
}

// stat is a statement; some are errors, or go on without end.
func (m *maker) stat() string {
	if m.depth > 3 {
		return m.name() + " = " + m.leaf()
	}
	m.depth++
	defer func() { m.depth-- }()
	switch m.r.Intn(40) {
	case 0, 1, 2, 3, 4, 5, 6, 7:
		return m.global() + " = " + m.exp()
	case 8, 9, 10, 11:
		return m.local()
	case 12, 13, 14, 15, 16:
		v := m.name()
		return "if type(" + v + ") == \"table\" then " + v + "[" + m.pick("1", "2", `"k"`, "true", "{}") + "] = " + m.exp() + " end"
	case 17, 18:
		v := m.name()
		return "if type(" + v + ") == \"table\" then setmeta(" + v + ", " + m.pick("{}", "nil", v) + ") end"
	case 19, 20, 21:
		return "pcall(" + m.name() + ", " + m.exp() + ")"
	case 22, 23:
		return "pcall(resume, " + m.name() + ", " + m.leaf() + ")"
	case 24, 25:
		return "for i = 1, " + m.pick("1", "2", "3") + " do " + m.block() + " end"
	case 26, 27:
		return "if " + m.exp() + " then " + m.block() + " else " + m.block() + " end"
	case 28, 29:
		return "do " + m.block() + " end"
	case 30, 31:
		v := "f" + strconv.Itoa(m.r.Intn(3))
		m.loc = append(m.loc, v)
		return "local function " + v + "(" + ") return " + m.exp() + " end"
	case 32:
		return m.name() + " = nil"
	case 33:
		v := m.name()
		return "if type(" + v + ") == \"table\" then " + v + "[" + m.key() + "] = nil end"
	}
	return m.bad()
}

// bad is a statement that may come to no good end.
func (m *maker) bad() string {
	switch m.r.Intn(12) {
	case 0:
		return "error(" + m.exp() + ")"
	case 1:
		return "while true do " + m.pick("a = {a}", "b = random()", "c = c") + " end"
	case 2:
		return "local function r() return r() + 1 end r()"
	case 3:
		return m.name() + "()"
	case 4:
		return m.name() + "[" + m.key() + "] = " + m.exp()
	case 5:
		return m.name() + " = " + m.name() + "." + m.pick("k", "l")
	case 6:
		return m.name() + " = = 1"
	}
	return m.global() + " = " + m.exp()
}
