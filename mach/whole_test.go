package mach_test

import (
	"math/rand"
	"testing"

	"minstrel/api"
	"minstrel/code"
	"minstrel/mach"
)

// lines are scripts by chance.
func lines(r *rand.Rand, n int) []string {
	l := make([]string, n)
	for i := range l {
		l[i] = script(r)
	}
	return l
}

// alike tells where two machines aren't.
func alike(t *testing.T, what string, a, b *mach.Machine) {
	t.Helper()
	if !code.Same(a.State(), b.State()) {
		t.Fatalf("%s: the States are %v and %v", what, a.State(), b.State())
	}
}

// P18.5: a machine that is read from a State has it, and goes on as the first one does; the first one goes on as if it had not been asked.
func TestOneForm(t *testing.T) {
	r := rand.New(rand.NewSource(185))
	for range 150 {
		limit, fuel, seed := 40+r.Intn(200), 50+r.Intn(700), r.Uint64()
		a, unasked := made(t, limit, fuel, seed), made(t, limit, fuel, seed)
		for _, s := range lines(r, 12) {
			a.Exec(s)
			unasked.Exec(s)
		}
		bytes, e := code.Encode(a.State())
		if e != api.OK {
			t.Fatalf("Encode(%v) = %v", a.State(), e)
		}
		c, _ := code.Decode(bytes)
		b, e := mach.FromState(c)
		if e != api.OK {
			t.Fatalf("FromState(%v) = %v", c, e)
		}
		for _, s := range lines(r, 12) {
			alike(t, "read again", a, b)
			x, y, z := a.Exec(s), b.Exec(s), unasked.Exec(s)
			if x != y || x != z {
				t.Fatalf("Exec(%q) = %v, of one that is read %v, of one that wasn't asked %v", s, x, y, z)
			}
		}
		alike(t, "not asked", a, unasked)
	}
}

// P18.5: functions, variables, threads and chance that are read go on.
func TestGoesOn(t *testing.T) {
	m := made(t, 200, 2000, 9)
	give(t, m, command{"local n = 0 up = function() n = n + 1 return n end down = function() n = n - 1 return n end", done("nil")},
		command{"c = create(function(a) return a .. yield(up()) end) t = setmeta({}, {k = up})", done("nil")},
		command{"up() return up()", done("2")})
	b, e := mach.FromState(m.State())
	if e != api.OK {
		t.Fatal(e)
	}
	for _, x := range []*mach.Machine{m, b} {
		give(t, x, command{"return up()", done("3")}, command{"return down()", done("2")}, command{"return t.k()", done("3")}, command{"local a = resume(c, \"x\")[2] return a .. resume(c, \"y\")[2]", done("4xy")}, command{"return status(c) .. up()", done("dead5")})
	}
	if x, y := m.Exec("return random(1000000)"), b.Exec("return random(1000000)"); x != y {
		t.Errorf("by chance %v and %v", x, y)
	}
	alike(t, "gone on", m, b)
}

// changing are what scripts do to each kind of thing that the machine of TestAllOrNothing has.
var changing = []string{
	"x = 2", "x = nil", "new = 5", "type = nil", "abs = sqrt", "t.k = 2", "t.k = nil", "t[9] = 9", "setmeta(t, {k = 1})", "setmeta(t, nil)", "getmeta(t).z = 8", "up()", "c = nil", "resume(c)", "resume(y)", "random()", "random(5)",
	"f = function() return 1 end", "t[t] = t", "up = nil", "t = nil", "local a = next(t) t[a] = nil t[a] = 1",
}

// P18.2, P18.6: whatever a command did, unless it is Done nothing is left of it.
func TestAllOrNothing(t *testing.T) {
	ends := map[string]api.Reply{
		" error(7)": failed("7"), " error({})": failed("table"), " local a = nil + 1": failed("arith"), " while true do end": ended(api.NoFuel), " while true do local a = {} end": ended(api.NoRoom), " local function f() return f() + 1 end f()": ended(api.NoStack),
		" local s = rep(\"abcd\", 4000) for i = 1, 70 do s = rep(\"abcd\", 4000) x = {x, s} end": ended(api.NoRoom), " !": bad("4 "),
	}
	setup := "local n = 1 x = 1 t = setmeta({k = 1, l = 2}, {z = 1}) up = function() n = n + 1 return n end c = create(function() x = 7 up() end) y = create(function() yield(1) end)"
	look := "return x .. tostring(new) .. type(abs(-4)) .. tostring(t.k) .. tostring(t[9]) .. t.z .. up() .. status(c) .. status(y) .. type(f) .. random(1000) .. #t .. next(t)"
	for _, do := range changing {
		for end, want := range ends {
			m := made(t, 300, 5000, 3)
			give(t, m, command{setup, done("nil")})
			was := m.State()
			if want.End == api.BadScript {
				want.Text = "4 " + decimal(len(do)+1)
			}
			give(t, m, command{do + end, want})
			if !code.Same(m.State(), was) {
				t.Errorf("%q left %v, not %v", do+end, m.State(), was)
			}
			other := made(t, 300, 5000, 3)
			other.Exec(setup)
			if a, b := m.Exec(look), other.Exec(look); a != b || a.End != api.Done {
				t.Errorf("behind %q it answers %v, not %v", do+end, a, b)
			}
			alike(t, do+end, m, other)
		}
		m := made(t, 300, 5000, 3)
		give(t, m, command{setup, done("nil")})
		was := m.State()
		if r := m.Exec(do); r.End != api.Done || code.Same(m.State(), was) {
			t.Errorf("%q is %v, and changes nothing", do, r)
		}
	}
}

// P18.6: of commands by chance those that are not Done leave the State as it was.
func TestNothingByChance(t *testing.T) {
	r := rand.New(rand.NewSource(186))
	for range 150 {
		m := made(t, 30+r.Intn(150), r.Intn(300), r.Uint64())
		for _, s := range lines(r, 20) {
			was := m.State()
			if reply := m.Exec(s); reply.End != api.Done && !code.Same(m.State(), was) {
				t.Fatalf("%q is %v, but the State was %v, and is %v", s, reply, was, m.State())
			}
		}
	}
}

// P18.7: what became unreachable, and commands that were not Done, leave no trace: a machine that was not given these has the same State, and answers the same.
func TestPutInOrder(t *testing.T) {
	r := rand.New(rand.NewSource(187))
	trash := []string{
		"local t = {{}, {{}}}", "q = {} q.q = q q = nil", "local function f() return f end", "local c = create(type) resume(c)", "q = function() end q = nil", "pcall(error, {})", "return {1, 2}", "local n = 1 local f = function() n = n + 1 end f()", "q = 1 q = nil", "error({{}})", "while true do q = {q} end", "q = =",
	}
	for range 150 {
		limit, fuel, seed := 80+r.Intn(150), 500+r.Intn(500), r.Uint64()
		a, b := made(t, limit, fuel, seed), made(t, limit, fuel, seed)
		for _, s := range lines(r, 15) {
			for range r.Intn(3) {
				a.Exec(trash[r.Intn(len(trash))])
			}
			was := a.State()
			if reply := a.Exec(s); reply.End == api.Done {
				if other := b.Exec(s); other != reply {
					t.Fatalf("Exec(%q) = %v, and without what was dropped %v", s, reply, other)
				}
			} else if !code.Same(a.State(), was) {
				t.Fatalf("%q left something", s)
			}
			alike(t, s, a, b)
		}
	}
}

// P18.7: two ways to the same things are one State.
func TestTwoWays(t *testing.T) {
	a, b := made(t, 200, 2000, 9), made(t, 200, 2000, 9)
	for _, s := range []string{"x = {} y = {} z = {} t = {x, y, z}", "x = {} y = x z = y t[1] = x t[2] = x", "t = {1} t = nil t = {x, y} z = nil"} {
		a.Exec(s)
	}
	for _, s := range []string{"x = {}", "y = x t = {y, x}"} {
		b.Exec(s)
	}
	alike(t, "two ways", a, b)
}

// P18.8: two machines of the same New that are given the same are alike, whatever another one is given between.
func TestAlike(t *testing.T) {
	r := rand.New(rand.NewSource(188))
	for range 100 {
		limit, fuel, seed := 30+r.Intn(200), r.Intn(900), r.Uint64()
		a, b, other := made(t, limit, fuel, seed), made(t, limit, fuel, seed), made(t, limit, fuel, seed)
		for _, s := range lines(r, 15) {
			x := a.Exec(s)
			other.Exec(script(r))
			if y := b.Exec(s); x != y {
				t.Fatalf("Exec(%q) = %v and %v", s, x, y)
			}
			alike(t, s, a, b)
		}
	}
}

// P18.8: with another seed chance is another, with another fuel or limit the ends are.
func TestNotAlike(t *testing.T) {
	a, b := made(t, 100, 100, 1), made(t, 100, 100, 2)
	if x, y := a.Exec("return random()"), b.Exec("return random()"); x == y || x.End != api.Done || y.End != api.Done {
		t.Errorf("by chance %v and %v", x, y)
	}
	give(t, made(t, 30, 100, 1), command{"t = {1, 2, 3, 4, 5}", ended(api.NoRoom)})
	give(t, made(t, 31, 100, 1), command{"t = {1, 2, 3, 4, 5}", done("nil")})
}

// What the zero Machine answers is open, but it does answer.
func TestZeroMachine(t *testing.T) {
	var m mach.Machine
	m.Exec("x = 1")
	m.Exec("")
	if _, e := mach.FromState(m.State()); e != api.ErrForm {
		t.Errorf("FromState of the zero machine's State = %v", e)
	}
}
