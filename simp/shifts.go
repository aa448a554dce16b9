package simp

import "cadence/api"

// shiftRules: of all shifts and turns.
func shiftRules(m *Maker, n node) (step, bool) {
	w := uint64(n.w)
	switch {
	case n.a.is(0): // S1
		return take(n.a)
	case n.b.isConst() && n.b.Num >= w: // S2
		return next(bin(n.op, n.a, constant(n.w, n.b.Num%w)))
	case n.b.is(0): // S3
		return take(n.a)
	}
	return none()
}

// shiftTwice: of shl and shr.
func shiftTwice(m *Maker, n node) (step, bool) {
	k1, found := m.innerAmount(n)
	// A shift that nobody made simple may have a greater amount, which counts modulo W.
	if !found || k1 >= uint64(n.w) {
		return none()
	}
	sum := n.b.Num + k1
	if sum >= uint64(n.w) { // S4
		return take(constant(n.w, 0))
	}
	return next(bin(n.op, m.part(n.a.A), constant(n.w, sum))) // S4
}

func rolTwice(m *Maker, n node) (step, bool) {
	k1, found := m.innerAmount(n)
	if !found {
		return none()
	}
	w := uint64(n.w)
	sum := (n.b.Num + k1%w) % w
	return next(bin(n.op, m.part(n.a.A), constant(n.w, sum))) // S5
}

// innerAmount: k1, if n is a shift by a constant of the same shift by k1.
func (m *Maker) innerAmount(n node) (uint64, bool) {
	if !n.b.isConst() || n.a.Op != n.op {
		return 0, false
	}
	k1 := m.part(n.a.B)
	return k1.Num, k1.isConst()
}

func rorRules(m *Maker, n node) (step, bool) {
	if n.b.isConst() { // S6
		return next(bin(api.OpRol, n.a, constant(n.w, uint64(n.w)-n.b.Num)))
	}
	return none()
}
