package simp

import (
	"cadence/api"
	"cadence/bits"
)

func oneConstant(m *Maker, n node) (step, bool) {
	if !n.a.isConst() {
		return none()
	}
	x, _ := bits.Un(n.op, n.w, n.a.Num) // C1
	return take(constant(n.w, x))
}

func twice(m *Maker, n node) (step, bool) {
	if n.a.Op == n.op { // C2
		return take(m.part(n.a.A))
	}
	return none()
}

func negRules(m *Maker, n node) (step, bool) {
	if n.a.Op == api.OpSub { // C3
		return next(bin(api.OpSub, m.part(n.a.B), m.part(n.a.A)))
	}
	return none()
}

func bothConstants(m *Maker, n node) (step, bool) {
	if !n.a.isConst() || !n.b.isConst() {
		return none()
	}
	if n.op == api.OpCat { // B1
		x, _ := bits.Cat(n.a.W, n.a.Num, n.b.W, n.b.Num)
		return take(constant(n.w, x))
	}
	x, _ := bits.Bin(n.op, n.w, n.a.Num, n.b.Num) // B1
	return take(constant(n.w, x))
}

func constantLast(m *Maker, n node) (step, bool) {
	if n.a.isConst() { // B2
		return next(bin(n.op, n.b, n.a))
	}
	return none()
}

// gathered: of x with two constants, one behind the other: of x with what the constants come to.
func gathered(m *Maker, n node) (step, bool) {
	if !n.b.isConst() || n.a.Op != n.op {
		return none()
	}
	k1 := m.part(n.a.B)
	if !k1.isConst() {
		return none()
	}
	k, _ := bits.Bin(n.op, n.w, k1.Num, n.b.Num) // G5, H5, K5, P2, Q5
	return next(bin(n.op, m.part(n.a.A), constant(n.w, k)))
}

func bandRules(m *Maker, n node) (step, bool) {
	switch {
	case n.b.is(0): // G1
		return take(n.b)
	case n.b.isOnes(): // G2
		return take(n.a)
	case same(n.a, n.b): // G3
		return take(n.a)
	case m.isOf(api.OpCom, n.a, n.b): // G4
		return take(constant(n.w, 0))
	}
	return none()
}

func borRules(m *Maker, n node) (step, bool) {
	switch {
	case n.b.is(0): // H1
		return take(n.a)
	case n.b.isOnes(): // H2
		return take(n.b)
	case same(n.a, n.b): // H3
		return take(n.a)
	case m.isOf(api.OpCom, n.a, n.b): // H4
		return take(constant(n.w, ones))
	}
	return none()
}

// ones: as many as a word may have.
const ones = 1<<api.MaxWidth - 1

func bxorRules(m *Maker, n node) (step, bool) {
	switch {
	case n.b.is(0): // K1
		return take(n.a)
	case n.b.isOnes(): // K2
		return next(un(api.OpCom, n.a))
	case same(n.a, n.b): // K3
		return take(constant(n.w, 0))
	case m.isOf(api.OpCom, n.a, n.b): // K4
		return take(constant(n.w, ones))
	}
	return none()
}

// bxorUndone: what a second bxor with the same takes away.
func bxorUndone(m *Maker, n node) (step, bool) {
	if x, found := m.besides(n.a, n.b); found { // K6, K7
		return take(x)
	}
	if x, found := m.besides(n.b, n.a); found { // K8, K9
		return take(x)
	}
	return none()
}

// besides: what is p without the part q, if p is bxor x q or bxor q x.
func (m *Maker) besides(p, q part) (part, bool) {
	if p.Op != api.OpBxor {
		return part{}, false
	}
	x, y := m.part(p.A), m.part(p.B)
	switch {
	case same(y, q):
		return x, true
	case same(x, q):
		return y, true
	}
	return part{}, false
}

func addRules(m *Maker, n node) (step, bool) {
	if n.b.is(0) { // P1
		return take(n.a)
	}
	if s, fits := gathered(m, n); fits { // P2
		return s, true
	}
	switch {
	case n.b.Op == api.OpNeg: // P3
		return next(bin(api.OpSub, n.a, m.part(n.b.A)))
	case n.a.Op == api.OpNeg: // P4
		return next(bin(api.OpSub, n.b, m.part(n.a.A)))
	case n.a.Op == api.OpSub && same(m.part(n.a.B), n.b): // P5
		return take(m.part(n.a.A))
	case n.b.Op == api.OpSub && same(m.part(n.b.B), n.a): // P6
		return take(m.part(n.b.A))
	}
	return none()
}

func subRules(m *Maker, n node) (step, bool) {
	switch {
	case n.b.is(0): // M1
		return take(n.a)
	case same(n.a, n.b): // M2
		return take(constant(n.w, 0))
	case n.b.isConst(): // M3
		return next(bin(api.OpAdd, n.a, constant(n.w, -n.b.Num)))
	case n.a.is(0): // M4
		return next(un(api.OpNeg, n.b))
	case n.a.Op == api.OpAdd && same(m.part(n.a.B), n.b): // M5
		return take(m.part(n.a.A))
	case n.a.Op == api.OpAdd && same(m.part(n.a.A), n.b): // M6
		return take(m.part(n.a.B))
	case n.b.Op == api.OpNeg: // M7
		return next(bin(api.OpAdd, n.a, m.part(n.b.A)))
	}
	return none()
}

func mulRules(m *Maker, n node) (step, bool) {
	by, isPower := powerOf(n.b)
	switch {
	case n.b.is(0): // Q1
		return take(n.b)
	case n.b.is(1): // Q2
		return take(n.a)
	case n.b.isOnes(): // Q3
		return next(un(api.OpNeg, n.a))
	case isPower && isShiftWidth(n.w): // Q4
		return next(bin(api.OpShl, n.a, constant(n.w, by)))
	}
	return none()
}

func divRules(m *Maker, n node) (step, bool) {
	by, isPower := powerOf(n.b)
	switch {
	case n.b.is(1): // D1
		return take(n.a)
	case isPower && isShiftWidth(n.w): // D2
		return next(bin(api.OpShr, n.a, constant(n.w, by)))
	}
	return none()
}

func remRules(m *Maker, n node) (step, bool) {
	_, isPower := powerOf(n.b)
	switch {
	case n.b.is(1): // R1
		return take(constant(n.w, 0))
	case isPower: // R2
		return next(bin(api.OpBand, n.a, constant(n.w, n.b.Num-1)))
	}
	return none()
}
