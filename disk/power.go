package disk

// Arm lets power go at the n-th counted call from now on; n below 1: at none.
func (d *Disk) Arm(n int) {
	if d.down {
		return
	}
	d.left = n
}

// Down tells whether power is gone.
func (d *Disk) Down() bool {
	return d.down
}

// Crash leaves of each file what is synced and keep bytes more, and brings power back.
func (d *Disk) Crash(keep int) {
	keep = max(keep, 0)
	for i := range d.files {
		f := &d.files[i]
		loose := len(f.data) - f.synced
		f.keep(f.synced + min(keep, loose))
	}
	d.left, d.down = 0, false
}

// spend counts one call, and tells whether there is power for it. It is asked behind the refusals that do not count.
func (d *Disk) spend() bool {
	if d.left > 0 {
		d.left--
		d.down = d.left == 0
	}
	return !d.down
}
