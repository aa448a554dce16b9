package simp

import (
	"cadence/api"
	"cadence/bits"
)

func catRules(m *Maker, n node) (step, bool) {
	switch {
	case n.a.is(0): // T1
		return next(ext(api.OpZext, n.b, n.w))
	case n.a.Op == api.OpSlice && n.b.Op == api.OpSlice && n.a.A == n.b.A && n.a.Num == n.b.Num+uint64(n.b.W): // T2
		return next(slice(m.part(n.b.A), n.b.Num, n.w))
	}
	return none()
}

func sliceRules(m *Maker, n node) (step, bool) {
	switch {
	case n.a.isConst(): // V1
		x, _ := bits.Slice(n.a.W, n.a.Num, int(n.num), n.w)
		return take(constant(n.w, x))
	case n.w == n.a.W: // V2
		return take(n.a)
	case n.a.Op == api.OpSlice: // V3
		return next(slice(m.part(n.a.A), n.a.Num+n.num, n.w))
	}
	return none()
}

func sliceOfCat(m *Maker, n node) (step, bool) {
	if n.a.Op != api.OpCat {
		return none()
	}
	x, y := m.part(n.a.A), m.part(n.a.B)
	switch {
	case n.isWithin(y.W): // V4
		return next(slice(y, n.num, n.w))
	case n.isAbove(y.W): // V5
		return next(slice(x, n.num-uint64(y.W), n.w))
	}
	return none()
}

func sliceOfZext(m *Maker, n node) (step, bool) {
	if n.a.Op != api.OpZext {
		return none()
	}
	x := m.part(n.a.A)
	switch {
	case n.isWithin(x.W): // V6
		return next(slice(x, n.num, n.w))
	case n.isAbove(x.W): // V7
		return take(constant(n.w, 0))
	}
	return none()
}

// isWithin: does a slice end within the lowest w bits?
func (n node) isWithin(w int) bool { return n.num+uint64(n.w) <= uint64(w) }

// isAbove: does a slice begin above the lowest w bits?
func (n node) isAbove(w int) bool { return n.num >= uint64(w) }

// extRules: of zext and sext.
func extRules(m *Maker, n node) (step, bool) {
	switch {
	case n.a.isConst(): // W1
		x, _ := bits.Ext(n.op, n.a.W, n.a.Num, n.w)
		return take(constant(n.w, x))
	case n.w == n.a.W: // W2
		return take(n.a)
	case n.a.Op == n.op: // W3
		return next(ext(n.op, m.part(n.a.A), n.w))
	}
	return none()
}

func sextRules(m *Maker, n node) (step, bool) {
	if n.a.Op != api.OpZext {
		return none()
	}
	x := m.part(n.a.A)
	// A zext that nobody made simple may be as wide as x: then its highest bit is x's, and not 0.
	if n.a.W == x.W {
		return none()
	}
	return next(ext(api.OpZext, x, n.w)) // W4
}
