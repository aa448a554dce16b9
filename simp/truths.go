package simp

import "cadence/api"

func notRules(m *Maker, n node) (step, bool) {
	switch n.a.Op {
	case api.OpTrue, api.OpFalse: // N1
		return take(truth(n.a.Op == api.OpFalse))
	case api.OpNot: // N2
		return take(m.part(n.a.A))
	}
	return none()
}

func andRules(m *Maker, n node) (step, bool) {
	switch {
	case n.a.Op == api.OpFalse || n.b.Op == api.OpFalse: // A1
		return take(truth(false))
	case n.a.Op == api.OpTrue: // A2
		return take(n.b)
	case n.b.Op == api.OpTrue: // A3
		return take(n.a)
	case same(n.a, n.b): // A4
		return take(n.a)
	case m.isOf(api.OpNot, n.a, n.b): // A5
		return take(truth(false))
	}
	return none()
}

func orRules(m *Maker, n node) (step, bool) {
	switch {
	case n.a.Op == api.OpTrue || n.b.Op == api.OpTrue: // O1
		return take(truth(true))
	case n.a.Op == api.OpFalse: // O2
		return take(n.b)
	case n.b.Op == api.OpFalse: // O3
		return take(n.a)
	case same(n.a, n.b): // O4
		return take(n.a)
	case m.isOf(api.OpNot, n.a, n.b): // O5
		return take(truth(true))
	}
	return none()
}

func xorRules(m *Maker, n node) (step, bool) {
	switch {
	case n.a.Op == api.OpFalse: // X1
		return take(n.b)
	case n.a.Op == api.OpTrue: // X2
		return next(un(api.OpNot, n.b))
	case n.b.Op == api.OpFalse: // X3
		return take(n.a)
	case n.b.Op == api.OpTrue: // X4
		return next(un(api.OpNot, n.a))
	case same(n.a, n.b): // X5
		return take(truth(false))
	case m.isOf(api.OpNot, n.a, n.b): // X6
		return take(truth(true))
	case n.a.Op == api.OpNot: // X7
		return turned(bin(api.OpXor, m.part(n.a.A), n.b))
	case n.b.Op == api.OpNot: // X8
		return turned(bin(api.OpXor, n.a, m.part(n.b.A)))
	}
	return none()
}

func iteRules(m *Maker, n node) (step, bool) {
	switch {
	case n.a.Op == api.OpTrue: // I1
		return take(n.b)
	case n.a.Op == api.OpFalse: // I1
		return take(n.c)
	case same(n.b, n.c): // I2
		return take(n.b)
	case n.a.Op == api.OpNot: // I3
		return next(ite(m.part(n.a.A), n.c, n.b))
	}
	return none()
}

// iteTruths: of words none fits, since no word is T, F or the truth a.
func iteTruths(m *Maker, n node) (step, bool) {
	switch {
	case n.b.Op == api.OpTrue: // I4
		return next(bin(api.OpOr, n.a, n.c))
	case n.b.Op == api.OpFalse: // I5
		return next(bin(api.OpAnd, m.build(un(api.OpNot, n.a)), n.c))
	case n.c.Op == api.OpTrue: // I6
		return next(bin(api.OpOr, m.build(un(api.OpNot, n.a)), n.b))
	case n.c.Op == api.OpFalse: // I7
		return next(bin(api.OpAnd, n.a, n.b))
	case same(n.b, n.a): // I8
		return next(bin(api.OpOr, n.a, n.c))
	case same(n.c, n.a): // I9
		return next(bin(api.OpAnd, n.a, n.b))
	}
	return none()
}

func iteNested(m *Maker, n node) (step, bool) {
	switch {
	case n.b.Op == api.OpIte && same(m.part(n.b.A), n.a): // I10
		return next(ite(n.a, m.part(n.b.B), n.c))
	case n.c.Op == api.OpIte && same(m.part(n.c.A), n.a): // I11
		return next(ite(n.a, n.b, m.part(n.c.C)))
	}
	return none()
}
