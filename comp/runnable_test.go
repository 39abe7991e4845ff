package comp

import (
	"reflect"
	"slices"
	"testing"

	"minstrel/api"
)

// P14.1: what would be too great for Check is ErrLong, at 0. No script is known that gets there, so functions stand here that none gave.
func TestTooGreat(t *testing.T) {
	end := []api.Instr{{Op: api.OpEnd}}
	fits := api.Proto{Regs: 3, Code: end}
	deep := fits
	for range api.MaxNest {
		deep = api.Proto{Code: end, Protos: []api.Proto{deep}}
	}
	for name, c := range map[string]struct{ greatest, tooGreat api.Proto }{
		"registers": {api.Proto{Regs: api.MaxRegs, Code: end}, api.Proto{Regs: api.MaxRegs + 1, Code: end}},
		"orders":    {api.Proto{Code: slices.Repeat(end, api.MaxCode)}, api.Proto{Code: slices.Repeat(end, api.MaxCode+1)}},
		"constants": {api.Proto{Code: end, Consts: make([]api.Value, api.MaxCode)}, api.Proto{Code: end, Consts: make([]api.Value, api.MaxCode+1)}},
		"functions": {api.Proto{Code: end, Protos: slices.Repeat([]api.Proto{fits}, api.MaxFuncs-1)}, api.Proto{Code: end, Protos: slices.Repeat([]api.Proto{fits}, api.MaxFuncs)}},
		"nests":     {deep, api.Proto{Code: end, Protos: []api.Proto{deep}}},
	} {
		if p, at, e := runnable(c.greatest); at != 0 || e != api.OK || !reflect.DeepEqual(p, c.greatest) {
			t.Errorf("%s: %d, %d", name, at, e)
		}
		if p, at, e := runnable(c.tooGreat); at != 0 || e != api.ErrLong || !reflect.DeepEqual(p, api.Proto{}) {
			t.Errorf("too many %s: %d, %d", name, at, e)
		}
	}
}
