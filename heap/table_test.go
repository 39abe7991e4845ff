package heap

import (
	"encoding/binary"
	"testing"

	"minstrel/api"
)

// alikeInHash are two texts of 16 bytes: their first halves differ, and the second half of the other makes up for it.
func alikeInHash(first, otherFirst, second uint64) (api.Value, api.Value) {
	mixed := func(parts ...uint64) uint64 {
		hash := uint64(0)
		for _, p := range parts {
			hash = (hash ^ p) * 0x9e3779b97f4a7c15
			hash ^= hash >> 32
		}
		return hash
	}
	text := func(a, b uint64) api.Value {
		return api.Value{K: api.Text, S: string(binary.BigEndian.AppendUint64(binary.BigEndian.AppendUint64(nil, a), b))}
	}
	otherSecond := second ^ mixed(api.Text, 0, 0, 16, first) ^ mixed(api.Text, 0, 0, 16, otherFirst)
	return text(first, second), text(otherFirst, otherSecond)
}

// P9.2: keys that share a hash are keys of their own all the same, in one bucket, wherever in it they lie.
func TestKeysOfOneHash(t *testing.T) {
	h, _ := New(1000)
	o, _ := h.Table()
	one := func(n int) api.Value { return api.Value{K: api.Lib, O: n} }
	var all []api.Value
	for i := range 50 {
		a, b := alikeInHash(1, uint64(i)+2, 77)
		if hashOf(a) != hashOf(b) || a == b {
			t.Fatal("no two texts of one hash: has the hash changed?")
		}
		if i == 0 {
			all = append(all, a)
		}
		all = append(all, b)
	}
	for i, k := range all {
		if v := h.Get(o, k); v != (api.Value{}) {
			t.Errorf("key %d is there ahead of its coming: %v", i, v)
		}
		if e := h.Set(o, k, one(i)); e != api.OK || h.Used() != i+2 {
			t.Errorf("Set of key %d: %d, %d cells", i, e, h.Used())
		}
	}
	for _, i := range []int{0, 50, 25, 1, 49, 30, 10} {
		if e := h.Set(o, all[i], api.Value{}); e != api.OK {
			t.Errorf("Set of key %d to Nil: %d", i, e)
		}
		all[i] = api.Value{}
		for j, k := range all {
			if v := h.Get(o, k); k != (api.Value{}) && v != one(j) {
				t.Errorf("key %d has %v behind key %d's going", j, v, i)
			}
		}
	}
}
