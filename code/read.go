package code

import "minstrel/api"

// reader takes bytes from the front; what can't be read it gives up by a panic with an api.Errno.
type reader struct {
	left []byte
}

// Decode reads the one cell that bytes are.
func Decode(b []byte) (c api.Cell, err api.Errno) {
	if len(b) > api.MaxBytes {
		return api.Cell{}, api.ErrLong
	}
	defer func() {
		if why := recover(); why != nil {
			c, err = api.Cell{}, why.(api.Errno)
		}
	}()
	r := reader{left: b}
	c = r.cell(0)
	if len(r.left) > 0 {
		panic(api.ErrForm)
	}
	return c, api.OK
}

// cell reads a cell that lies in so many lists.
func (r *reader) cell(lists int) api.Cell {
	switch r.take(1)[0] {
	case api.CellNumber:
		return Number(r.number(numberSize))
	case api.CellText:
		return Text(string(r.take(r.count())))
	case api.CellList:
		if lists == api.MaxDeep {
			panic(api.ErrLong)
		}
		return api.Cell{K: api.CellList, L: r.cells(r.count(), lists+1)}
	}
	panic(api.ErrForm)
}

// cells reads so many cells. Room is made as they come: what bytes say of how many there are may be said by lists in one another.
func (r *reader) cells(count, lists int) []api.Cell {
	var l []api.Cell
	for range count {
		l = append(l, r.cell(lists))
	}
	return l
}

// count reads how many bytes or cells there are: never more than bytes are left.
func (r *reader) count() int {
	// The number stays unsigned till it is known to be small: an int may have 32 bits only.
	n := r.number(countSize)
	if n > uint64(len(r.left)) {
		panic(api.ErrShort)
	}
	return int(n)
}

// number reads a number of so many bytes, the highest first.
func (r *reader) number(size int) uint64 {
	var n uint64
	for _, c := range r.take(size) {
		n = n<<8 | uint64(c)
	}
	return n
}

// take takes so many bytes from the front.
func (r *reader) take(n int) []byte {
	if n > len(r.left) {
		panic(api.ErrShort)
	}
	taken := r.left[:n]
	r.left = r.left[n:]
	return taken
}
