package disk

// Arm lets it go down at a call.
func (d *Disk) Arm(n int) {
	if d != nil {
		d.armed = max(n, 0)
	}
}

// call counts a call, and tells whether it is to be done: the disk goes down at the one that it is armed for.
func (d *Disk) call() bool {
	d.calls++
	if d.armed > 0 {
		d.armed--
		d.down = d.armed == 0
	}
	return !d.down
}

// Crash lets it keep what it likes.
func (d *Disk) Crash(keep ...int) {
	if d == nil {
		return
	}
	kept := keeper(keep)
	for at, ok := d.next(0); ok; at, ok = d.next(at + 1) {
		d.safe[at] = kept(d.safe[at], d.pending[at])
		delete(d.pending, at)
	}
	d.armed, d.down = 0, false
}

// keeper makes the function that tells what is kept of each sector in turn: by the first number of the first one that it is asked of, and so on.
func keeper(keep []int) func(sector, []sector) sector {
	return func(safe sector, pending []sector) sector {
		k := 0
		if len(keep) > 0 {
			k, keep = keep[0], keep[1:]
		}
		// The remainder ahead of the absolute value, which the least int has not.
		k %= 1 + len(pending)
		if k < 0 {
			k = -k
		}
		if k == 0 {
			return safe
		}
		return pending[k-1]
	}
}
