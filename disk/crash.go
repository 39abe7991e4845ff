package disk

// Crash lets all be torn that does not stand fast: of each file the first keep bytes of it stay, and tail comes behind them. The power is back.
func (d *Disk) Crash(keep int, tail []byte) {
	torn := d.tear(max(keep, 0))
	for _, name := range torn {
		// There is room behind all files that are torn, not only behind those that come ahead.
		d.lay(name, tail[:min(len(tail), d.room())])
	}
	for _, f := range d.files {
		f.fast = len(f.bytes)
	}
	d.power, d.left = lasts, 0
}

// tear leaves of each file what stands fast and keep bytes behind that, and answers which had any behind it, rising.
func (d *Disk) tear(keep int) []string {
	var torn []string
	for _, name := range d.Names() {
		f := d.files[name]
		loose := len(f.bytes) - f.fast
		if loose == 0 {
			continue
		}
		stay := min(loose, keep)
		// The room goes with what is torn: nothing is laid over that, and it is let go as soon as bytes come behind what stays.
		f.bytes = f.bytes[: f.fast+stay : f.fast+stay]
		d.used -= loose - stay
		torn = append(torn, name)
	}
	return torn
}
