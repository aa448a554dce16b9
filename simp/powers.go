package simp

import "math/bits"

// powerOf: n, if p is the constant that is 2 to the n-th, n above 0.
func powerOf(p part) (uint64, bool) {
	if !p.isConst() || p.Num < 2 || bits.OnesCount64(p.Num) > 1 {
		return 0, false
	}
	return uint64(bits.TrailingZeros64(p.Num)), true
}

// isShiftWidth: is it a power of two? Words of other widths have no shifts.
func isShiftWidth(w int) bool { return w&(w-1) == 0 }
