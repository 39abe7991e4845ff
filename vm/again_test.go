package vm_test

import (
	"math/rand"
	"testing"

	"minstrel/api"
	"minstrel/vm"
)

// P17.10: the same runs in two worlds end the same, and leave the same.
func TestAgain(t *testing.T) {
	r := rand.New(rand.NewSource(19))
	for i := range 300 {
		m := &maker{r: r, wrong: 30}
		a, _ := vm.New(1000, uint64(i))
		b, _ := vm.New(1000, uint64(i))
		for _, s := range []string{ahead + m.script(3), m.script(4), m.script(3)} {
			p, fuel := compiled(t, s), r.Intn(2000)
			x, y := mustRun(t, a, p, fuel), mustRun(t, b, p, fuel)
			if x != y || a.Seed() != b.Seed() || differ(a.Heap(), b.Heap()) > 0 || !sameProgs(a.Progs(), b.Progs()) {
				t.Fatalf("%.4000s\nwith fuel %d: %v, and again %v", s, fuel, x, y)
			}
		}
	}
}

// P17.10: with more fuel a run that did not end NoFuel ends the same, with as much more left, and leaves the same; with just what it paid too, and with less it ends NoFuel, with none left.
func TestMoreFuel(t *testing.T) {
	r := rand.New(rand.NewSource(20))
	for i := range 400 {
		m := &maker{r: r, wrong: 30}
		p := compiled(t, ahead+m.script(2+r.Intn(3)))
		room := []int{200, 2000}[i%2]
		run := func(fuel int) (api.Outcome, *vm.World) {
			w, _ := vm.New(room, uint64(i))
			return mustRun(t, w, p, fuel), w
		}
		const fuel = 3000
		want, w := run(fuel)
		if want.End == api.NoFuel {
			continue
		}
		paid := fuel - want.Fuel
		for _, other := range []int{paid, paid + 1, fuel + 1, 2 * fuel, api.MaxFuel} {
			got, v := run(other)
			if got != (api.Outcome{End: want.End, V: want.V, Fuel: other - paid}) || w.Seed() != v.Seed() || differ(w.Heap(), v.Heap()) > 0 {
				t.Fatalf("with fuel %d: %v; with %d: %v", fuel, want, other, got)
			}
		}
		for _, less := range []int{0, paid / 2, paid - 1} {
			if less >= paid {
				continue
			}
			if got, _ := run(less); got != (api.Outcome{End: api.NoFuel}) {
				t.Fatalf("with fuel %d of %d: %v", less, paid, got)
			}
		}
	}
}

// P17.10: a world that Make makes of another one's parts goes on as that does.
func TestMadeAgain(t *testing.T) {
	r := rand.New(rand.NewSource(21))
	for i := range 200 {
		m := &maker{r: r, wrong: 30}
		a, _ := vm.New(2000, uint64(i))
		b, _ := vm.New(2000, uint64(i))
		for _, s := range []string{ahead + m.script(3), m.script(4), m.script(3)} {
			p := compiled(t, s)
			var e api.Errno
			if b, e = vm.Make(b.Heap(), b.Globals(), b.Progs(), b.Seed()); e != api.OK {
				t.Fatalf("Make: %d", e)
			}
			x, y := mustRun(t, a, p, 2000), mustRun(t, b, p, 2000)
			if x != y || a.Seed() != b.Seed() || differ(a.Heap(), b.Heap()) > 0 || !sameProgs(a.Progs(), b.Progs()) {
				t.Fatalf("%.4000s\n%v, and made again %v", s, x, y)
			}
		}
	}
}
