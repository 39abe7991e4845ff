package mach_test

import (
	"math/rand"
	"testing"

	"minstrel/api"
	"minstrel/code"
	"minstrel/mach"
)

// P18.2, P18.3, P18.4, P18.5: commands by chance, one behind the other, are answered, and leave a State, as the bench's; and so they do with a machine in the midst that is read from a State.
func TestCommandsByChance(t *testing.T) {
	r := rand.New(rand.NewSource(18))
	ends := map[int]int{}
	kinds := map[int]int{}
	for round := range 240 {
		limit, fuel, seed := 30+r.Intn(300), r.Intn(900), r.Uint64()
		m, e := mach.New(limit, fuel, seed)
		if e != api.OK {
			t.Fatal(e)
		}
		b := newBench(limit, fuel, seed)
		for range 30 {
			s := script(r)
			got, want := m.Exec(s), b.exec(s)
			if got != want {
				t.Fatalf("round %d: Exec(%q) = %v, not %v", round, s, got, want)
			}
			ends[got.End]++
			state := b.state()
			if !code.Same(m.State(), state) {
				t.Fatalf("round %d: behind %q the State is %v, not %v", round, s, m.State(), state)
			}
			n, e := mach.FromState(state)
			if e != api.OK || !code.Same(n.State(), state) {
				t.Fatalf("round %d: FromState(%v) = %v", round, state, e)
			}
			if r.Intn(2) == 0 {
				m = n
			}
		}
		for _, t := range breadth(b.globals) {
			kinds[t.kind]++
		}
	}
	for _, end := range []int{api.Done, api.Failed, api.NoFuel, api.NoRoom, api.NoStack, api.BadScript} {
		if ends[end] < 20 {
			t.Errorf("only %d commands ended with %d", ends[end], end)
		}
	}
	for _, kind := range []int{api.Table, api.Func, api.Co, api.Box} {
		if kinds[kind] < 100 {
			t.Errorf("only %d objects of the kind %d were left", kinds[kind], kind)
		}
	}
}
