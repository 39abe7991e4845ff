package vm_test

import (
	"math/rand"
	"testing"

	"minstrel/api"
)

// P17.3, P17.4, P17.5, P17.6, P17.7, P17.9: scripts by chance, two in each world, with fuel and room enough and with less, do what their trees say, and what their orders say: they end alike, with as much fuel, and leave the same objects and the same chance.
func TestScriptsByChance(t *testing.T) {
	r := rand.New(rand.NewSource(17))
	ends := map[int]int{}
	for i := range 1200 {
		m := &maker{r: r, wrong: []int{0, 40, 15}[i%3]}
		first, second := ahead+m.script(2+r.Intn(4)), m.script(2+r.Intn(4))
		fuel, room := 3000, 1<<14
		switch i % 4 {
		case 1:
			fuel = r.Intn(400)
		case 2:
			room = 24 + r.Intn(200)
		}
		w := newWorlds(t, room, uint64(i))
		w.script(t, first, fuel)
		ends[w.script(t, second, fuel).End]++
	}
	for how, least := range map[int]int{api.Done: 200, api.Failed: 200, api.NoFuel: 50, api.NoRoom: 50} {
		if ends[how] < least {
			t.Errorf("only %d of the scripts ended with %d: %v", ends[how], how, ends)
		}
	}
}

// P17.3, P17.4, P17.5, P17.6, P17.7, P17.8: functions by chance that Check takes, three in each world, do what their orders say. Most of them go wrong where no script would: Boxes that are none, Boxes as values, jumps to anywhere.
func TestFunctionsByChance(t *testing.T) {
	r := rand.New(rand.NewSource(18))
	ends := map[int]int{}
	for i := range 4000 {
		m := orderMaker{r}
		room := 1 << 12
		if i%4 == 0 {
			room = 24 + r.Intn(100)
		}
		w := newWorlds(t, room, uint64(i))
		for range 3 {
			p := m.function(nil, 1+r.Intn(3))
			ends[w.proto(t, p, []int{r.Intn(60), 1000}[r.Intn(2)]).End]++
		}
	}
	for how, least := range map[int]int{api.Done: 500, api.Failed: 500, api.NoFuel: 500, api.NoRoom: 100, api.NoStack: 10} {
		if ends[how] < least {
			t.Errorf("only %d of the functions ended with %d: %v", ends[how], how, ends)
		}
	}
}
