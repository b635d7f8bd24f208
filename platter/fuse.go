package platter

import "citadel/api"

// fuse counts steps, and lets the power go ahead of one.
type fuse struct {
	made  int
	armed bool
	left  int // steps that may still be made, where it is armed
	down  bool
}

// step makes a step, or tells that there is no power for it.
func (f *fuse) step() error {
	if f.armed && f.left == 0 {
		f.down = true
	}
	if f.down {
		return api.ErrDown
	}
	if f.armed {
		f.left--
	}
	f.made++
	return nil
}

// arm lets the power go after so many steps, whatever was armed before.
func (f *fuse) arm(n int) {
	f.armed = true
	f.left = n
}

// mend brings the power back, for good.
func (f *fuse) mend() {
	f.armed = false
	f.left = 0
	f.down = false
}
