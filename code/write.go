package code

import "minstrel/api"

// writer lays cells one behind the other; what can't be written it gives up by a panic with an api.Errno.
type writer struct {
	out []byte
}

// Encode is a cell's bytes.
func Encode(c api.Cell) (b []byte, err api.Errno) {
	defer func() {
		if why := recover(); why != nil {
			b, err = nil, why.(api.Errno)
		}
	}()
	var w writer
	w.cell(c, 0)
	return w.out, api.OK
}

// cell lays a cell that lies in so many lists.
func (w *writer) cell(c api.Cell, lists int) {
	switch c.K {
	case api.CellNumber:
		w.lay(api.CellNumber)
		w.number(c.N, numberSize)
	case api.CellText:
		w.lay(api.CellText)
		w.number(uint64(len(c.S)), countSize)
		w.room(len(c.S))
		w.out = append(w.out, c.S...)
	case api.CellList:
		if lists == api.MaxDeep {
			panic(api.ErrLong)
		}
		w.lay(api.CellList)
		w.number(uint64(len(c.L)), countSize)
		for _, part := range c.L {
			w.cell(part, lists+1)
		}
	default:
		panic(api.ErrArg)
	}
}

// number lays a number in so many bytes, the highest first.
func (w *writer) number(n uint64, size int) {
	for i := size - 1; i >= 0; i-- {
		w.lay(byte(n >> (8 * i)))
	}
}

// lay writes one byte.
func (w *writer) lay(c byte) {
	w.room(1)
	w.out = append(w.out, c)
}

// room gives up if so many bytes more are too many: asked ahead of each, it ends even what would be endless.
func (w *writer) room(more int) {
	if more > api.MaxBytes-len(w.out) {
		panic(api.ErrLong)
	}
}
