package simp

import (
	"cadence/api"
	"cadence/bits"
)

func eq(a, b part) node { return bin(api.OpEq, a, b) }

func eqRules(m *Maker, n node) (step, bool) {
	switch {
	case same(n.a, n.b): // E1
		return take(truth(true))
	case n.a.isFixed() && n.b.isFixed(): // E2: since they are not one term
		return take(truth(false))
	case n.a.isFixed(): // E3
		return next(eq(n.b, n.a))
	case n.b.Op == api.OpTrue: // E4
		return take(n.a)
	case n.b.Op == api.OpFalse: // E5
		return next(un(api.OpNot, n.a))
	case m.isOf(api.OpNot, n.a, n.b): // E6
		return take(truth(false))
	}
	return none()
}

// eqUndone: of a constant with what can be undone on both sides.
func eqUndone(m *Maker, n node) (step, bool) {
	if !n.b.isConst() {
		return none()
	}
	k, w := n.b.Num, n.b.W
	x, y := m.part(n.a.A), m.part(n.a.B)
	switch op := n.a.Op; {
	case op == api.OpCom: // E7
		return next(eq(x, constant(w, ^k)))
	case op == api.OpNeg: // E8
		return next(eq(x, constant(w, -k)))
	case op == api.OpAdd && y.isConst(): // E9
		return next(eq(x, constant(w, k-y.Num)))
	case op == api.OpBxor && y.isConst(): // E10
		return next(eq(x, constant(w, k^y.Num)))
	case op == api.OpRol && y.isConst(): // E11
		back, _ := bits.Bin(api.OpRor, w, k, y.Num)
		return next(eq(x, constant(w, back)))
	case (op == api.OpSub || op == api.OpBxor) && k == 0: // E12
		return next(eq(x, y))
	}
	return none()
}

// eqNarrower: of a constant with what is made of narrower words, or of two constants.
func eqNarrower(m *Maker, n node) (step, bool) {
	if !n.b.isConst() {
		return none()
	}
	k, w := n.b.Num, n.b.W
	x := m.part(n.a.A)
	switch n.a.Op {
	case api.OpZext, api.OpSext: // E13, E14
		if back, _ := bits.Ext(n.a.Op, x.W, k, w); back != k {
			return take(truth(false))
		}
		return next(eq(x, constant(x.W, k)))
	case api.OpIte: // E15
		return eqOfIte(n.b, x, m.part(n.a.B), m.part(n.a.C))
	case api.OpCat: // E16
		y := m.part(n.a.B)
		upper := m.build(eq(x, constant(x.W, k>>y.W)))
		lower := m.build(eq(y, constant(y.W, k)))
		return next(bin(api.OpAnd, upper, lower))
	}
	return none()
}

// eqOfIte: of k with ite x k1 k2.
func eqOfIte(k, x, k1, k2 part) (step, bool) {
	switch {
	case !k1.isConst() || !k2.isConst():
		return none()
	case same(k1, k) && same(k2, k):
		return take(truth(true))
	case same(k1, k):
		return take(x)
	case same(k2, k):
		return next(un(api.OpNot, x))
	}
	return take(truth(false))
}

func ultRules(m *Maker, n node) (step, bool) {
	switch {
	case same(n.a, n.b): // U1
		return take(truth(false))
	case n.a.isConst() && n.b.isConst(): // U2
		return take(truth(n.a.Num < n.b.Num))
	case n.b.is(0): // U3
		return take(truth(false))
	case n.a.is(0): // U4
		return turned(eq(n.b, n.a))
	case n.b.is(1): // U5
		return next(eq(n.a, constant(n.a.W, 0)))
	case n.a.isOnes(): // U6
		return take(truth(false))
	case n.b.isOnes(): // U7
		return turned(eq(n.a, n.b))
	}
	return none()
}

func sltRules(m *Maker, n node) (step, bool) {
	switch {
	case same(n.a, n.b): // L1
		return take(truth(false))
	case n.a.isConst() && n.b.isConst(): // L2
		return take(truth(bits.Signed(n.a.W, n.a.Num) < bits.Signed(n.b.W, n.b.Num)))
	}
	return none()
}

// turnedBack: "not above" is not "below", the other way round.
func turnedBack(below int) rule {
	return func(m *Maker, n node) (step, bool) { return turned(bin(below, n.b, n.a)) }
}
