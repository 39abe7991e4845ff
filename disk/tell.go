package disk

import (
	"maps"
	"slices"
)

// Read is a file's bytes, and whether there is such a file.
func (d *Disk) Read(name string) ([]byte, bool) {
	f := d.files[name]
	if f == nil {
		return nil, false
	}
	return slices.Clone(f.bytes), true
}

// Fast is how many of a file's bytes stand fast.
func (d *Disk) Fast(name string) int {
	f := d.files[name]
	if f == nil {
		return 0
	}
	return f.fast
}

// Names are the names of all files, rising.
func (d *Disk) Names() []string {
	return slices.Sorted(maps.Keys(d.files))
}

// Used is how many bytes all files have.
func (d *Disk) Used() int {
	return d.used
}
