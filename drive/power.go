package drive

import (
	"slices"

	"pantile/api"
)

const never = -1

// Deeds is how many deeds were done.
func (d *Drive) Deeds() int { return d.deeds }

// Arm lets the power go.
func (d *Drive) Arm(after int) { d.left = after }

// Up lets it be there again.
func (d *Drive) Up(keep []int) {
	d.left = never
	if !d.down {
		return
	}
	d.down = false
	whole := func(name string) bool { return d.files[name].pieces() == 0 }
	for i, name := range slices.DeleteFunc(d.List(""), whole) {
		f := d.files[name]
		d.used -= f.settle(kept(keep, i, f.pieces()))
	}
}

// Alive tells whether it is there.
func (d *Drive) Alive() bool { return !d.down }

// deed does a deed, unless it is refused, or the power is gone or goes.
func (d *Drive) deed(refused api.Errno, do func()) api.Errno {
	if d.down {
		return api.ErrDown
	}
	if refused != api.OK {
		return refused
	}
	if d.left == 0 {
		d.down = true
		return api.ErrDown
	}
	if d.left > 0 {
		d.left--
	}
	do()
	d.deeds++
	return api.OK
}

// kept is how many of its pieces the i-th file keeps.
func kept(keep []int, i, pieces int) int {
	if len(keep) == 0 {
		return 0
	}
	n := keep[i%len(keep)]
	if n < 0 {
		n = -(n + 1)
	}
	return n % (pieces + 1)
}
