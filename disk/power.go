package disk

// Fail has the n-th act from now on fail; with n below 1: none.
func (d *Disk) Fail(n int) {
	if !d.isMade() || d.down {
		return
	}
	d.fail = max(n, 0)
}

// Crash: the power fails, and the first so many steps are kept.
func (d *Disk) Crash(keep int) {
	if !d.isMade() || d.down {
		return
	}
	d.settle(keep)
	d.seen = d.last.copied()
	d.free = d.room - d.seen.taken()
	d.fail, d.down = 0, true
}

// Start: the power is on.
func (d *Disk) Start() {
	if d.isMade() {
		d.down = false
	}
}

// Down answers whether the power is off.
func (d *Disk) Down() bool { return d.isMade() && d.down }
