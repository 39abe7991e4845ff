package disk

// power is whether there is power. The zero value is power that lasts.
type power int

const (
	lasts power = iota // it never goes
	goes               // it goes at a call that is yet to come, or is being made
	gone
)

// Cut lets the power go behind n calls. Power that is gone can't go, and stays gone until a Crash.
func (d *Disk) Cut(n int) {
	if d.power == gone {
		return
	}
	if n < 0 {
		d.power, d.left = lasts, 0
		return
	}
	d.power, d.left = goes, n
}

// call counts a call: the power lasts through it, goes at it, or is gone.
func (d *Disk) call() power {
	if d.power != goes {
		return d.power
	}
	if d.left > 0 {
		d.left--
		return lasts
	}
	d.power = gone
	return goes
}
