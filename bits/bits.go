// Package bits is layer 1: words of 1 to 64 bits. See shared/doc/01-bits.md.
package bits

import "cadence/api"

// Right: is it a width?
func Right(w int) bool { return w >= 1 && w <= api.MaxWidth }

// Trim: the lowest w bits.
func Trim(w int, x uint64) uint64 {
	if w < 1 {
		return 0
	}
	if w >= api.MaxWidth {
		return x
	}
	return x & (1<<w - 1)
}

// Signed: the signed number of a word.
func Signed(w int, x uint64) int64 {
	if !Right(w) {
		return 0
	}
	// With its highest bit laid on that of the int64, the shift back brings the sign in.
	gap := api.MaxWidth - w
	return int64(x<<gap) >> gap
}

// Un: the operations of one word.
func Un(op, w int, x uint64) (uint64, api.Errno) {
	if op != api.OpCom && op != api.OpNeg {
		return 0, api.ErrOp
	}
	if !Right(w) {
		return 0, api.ErrWidth
	}
	switch op {
	case api.OpCom:
		return Trim(w, ^x), api.OK
	default: // api.OpNeg
		return Trim(w, -x), api.OK
	}
}

// Bin: the operations of two words.
func Bin(op, w int, x, y uint64) (uint64, api.Errno) {
	if op < api.OpBand || op > api.OpRor {
		return 0, api.ErrOp
	}
	if !Right(w) || isShift(op) && !isShiftWidth(w) {
		return 0, api.ErrWidth
	}
	x, y = Trim(w, x), Trim(w, y)
	if isShift(op) {
		return Trim(w, shifted(op, w, x, y)), api.OK
	}
	return Trim(w, joined(op, x, y)), api.OK
}

func isShift(op int) bool { return op >= api.OpShl && op <= api.OpRor }

func isShiftWidth(w int) bool { return w&(w-1) == 0 }

// joined: Bin without the shifts; what stands above the width is not gone yet.
func joined(op int, x, y uint64) uint64 {
	switch op {
	case api.OpBand:
		return x & y
	case api.OpBor:
		return x | y
	case api.OpBxor:
		return x ^ y
	case api.OpAdd:
		return x + y
	case api.OpSub:
		return x - y
	case api.OpMul:
		return x * y
	case api.OpDiv:
		if y == 0 {
			return ^y
		}
		return x / y
	default: // api.OpRem
		if y == 0 {
			return x
		}
		return x % y
	}
}

// shifted: Bin's shifts and turns; what stands above the width is not gone yet.
func shifted(op, w int, x, y uint64) uint64 {
	n := int(y % uint64(w))
	switch op {
	case api.OpShl:
		return x << n
	case api.OpShr:
		return x >> n
	case api.OpSar:
		return uint64(Signed(w, x) >> n)
	case api.OpRol:
		return x<<n | x>>(w-n)
	default: // api.OpRor
		return x>>n | x<<(w-n)
	}
}

// Cmp: the compares.
func Cmp(op, w int, x, y uint64) (bool, api.Errno) {
	if op < api.OpEq || op > api.OpSle {
		return false, api.ErrOp
	}
	if !Right(w) {
		return false, api.ErrWidth
	}
	x, y = Trim(w, x), Trim(w, y)
	switch op {
	case api.OpEq:
		return x == y, api.OK
	case api.OpUlt:
		return x < y, api.OK
	case api.OpUle:
		return x <= y, api.OK
	case api.OpSlt:
		return Signed(w, x) < Signed(w, y), api.OK
	default: // api.OpSle
		return Signed(w, x) <= Signed(w, y), api.OK
	}
}

// Cat: one word above another.
func Cat(w int, x uint64, v int, y uint64) (uint64, api.Errno) {
	if !Right(w) || !Right(v) || w+v > api.MaxWidth {
		return 0, api.ErrWidth
	}
	return Trim(w, x)<<v | Trim(v, y), api.OK
}

// Slice: n bits from a bit on.
func Slice(w int, x uint64, from, n int) (uint64, api.Errno) {
	// The sum from + n could leave its type's range; the difference w - n can't.
	if !Right(w) || n < 1 || from < 0 || from > w-n {
		return 0, api.ErrWidth
	}
	return Trim(n, x>>from), api.OK
}

// Ext: a wider word.
func Ext(op, w int, x uint64, to int) (uint64, api.Errno) {
	if op != api.OpZext && op != api.OpSext {
		return 0, api.ErrOp
	}
	if !Right(w) || !Right(to) || to < w {
		return 0, api.ErrWidth
	}
	switch op {
	case api.OpZext:
		return Trim(w, x), api.OK
	default: // api.OpSext
		return Trim(to, uint64(Signed(w, x))), api.OK
	}
}
