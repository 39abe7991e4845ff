package vm_test

import (
	"reflect"
	"strconv"
	"strings"
	"testing"

	"minstrel/api"
	"minstrel/comp"
	"minstrel/heap"
	"minstrel/prog"
	"minstrel/scope"
	"minstrel/value"
	"minstrel/vm"
)

// worlds are one of the package and two of the tests' own, given the same. Functions that no script gave have no tree.
type worlds struct {
	w     *vm.World
	plain *plain
	tree  *walker
	told  []string // what was run, for messages
}

func newWorlds(t *testing.T, room int, seed uint64) *worlds {
	t.Helper()
	w, e := vm.New(room, seed)
	if e != api.OK {
		t.Fatalf("New(%d, %d): %d", room, seed, e)
	}
	return &worlds{w: w, plain: newPlain(room, seed), tree: newWalker(room, seed)}
}

// script runs a script in all of them, which must end alike, and leave the same.
func (w *worlds) script(t *testing.T, s string, fuel int) api.Outcome {
	t.Helper()
	n, at, e := scope.Script(s)
	if e != api.OK {
		t.Fatalf("%.2000s: %d at %d", s, e, at)
	}
	w.told = append(w.told, s)
	got := w.proto(t, compiled(t, s), fuel)
	w.mustBe(t, got, w.tree.script(n, fuel), w.tree.bench)
	return got
}

// proto runs a function in those that need no tree.
func (w *worlds) proto(t *testing.T, p api.Proto, fuel int) api.Outcome {
	t.Helper()
	w.told = append(w.told, prog.Print(p))
	got := mustRun(t, w.w, p, fuel)
	w.mustBe(t, got, w.plain.script(p, fuel), w.plain.bench)
	return got
}

// mustBe: a run ended as it has to, and all that there is, is as it has to be.
func (w *worlds) mustBe(t *testing.T, got, want api.Outcome, b *bench) {
	t.Helper()
	if got != want {
		t.Fatalf("%.6000s\n%v; want %v", strings.Join(w.told, "\n"), got, want)
	}
	if w.w.Seed() != b.seed {
		t.Fatalf("%.6000s\nseed %x; want %x", strings.Join(w.told, "\n"), w.w.Seed(), b.seed)
	}
	if place := differ(w.w.Heap(), b.heap); place > 0 {
		x, _ := w.w.Heap().Object(place)
		y, _ := b.heap.Object(place)
		t.Fatalf("%.6000s\n%v; object %d is %v; want %v", strings.Join(w.told, "\n"), got, place, x, y)
	}
}

// differ is the first object that is not the same in both heaps.
func differ(a, b *heap.Heap) int {
	for o := 1; o <= max(a.Len(), b.Len()); o++ {
		x, there := a.Object(o)
		y, too := b.Object(o)
		if there != too || !reflect.DeepEqual(x, y) {
			return o
		}
	}
	return 0
}

func compiled(t *testing.T, s string) api.Proto {
	t.Helper()
	p, at, e := comp.Script(s)
	if e != api.OK {
		t.Fatalf("%.2000s: %d at %d", s, e, at)
	}
	return p
}

func mustRun(t *testing.T, w *vm.World, p api.Proto, fuel int) api.Outcome {
	t.Helper()
	o, e := w.Run(p, fuel)
	if e != api.OK {
		t.Fatalf("%.2000s\nRun with fuel %d: %d", prog.Print(p), fuel, e)
	}
	return o
}

// runScript runs a script in a world.
func runScript(t *testing.T, w *vm.World, s string, fuel int) api.Outcome {
	t.Helper()
	return mustRun(t, w, compiled(t, s), fuel)
}

// fresh is a world with room for anything that the tests do.
func fresh(t *testing.T) *vm.World {
	t.Helper()
	w, e := vm.New(1<<16, 7)
	if e != api.OK {
		t.Fatalf("New: %d", e)
	}
	return w
}

// ample is fuel enough for what ends by itself.
const ample = 1 << 18

// mustTell runs a script in a new world to its end, and tells its answer as a text, or "!" and its error.
func mustTell(t *testing.T, s string) string {
	t.Helper()
	o := newWorlds(t, 1<<16, 7).script(t, s, ample)
	return shown(o)
}

// shown is an outcome as a text, without the fuel.
func shown(o api.Outcome) string {
	switch o.End {
	case api.Done:
		return value.Show(o.V)
	case api.Failed:
		return "!" + value.Show(o.V)
	}
	return "end " + strconv.Itoa(o.End)
}
