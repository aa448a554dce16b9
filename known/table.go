package known

import (
	"cadence/api"
	"cadence/bits"
)

// tableFact: what the chapter's table tells of a node, not settled yet; the facts of its parts are.
func tableFact(n api.Node, parts []api.Fact) api.Fact {
	switch n.Op {
	case api.OpNot, api.OpCom:
		return turned(parts[0])
	case api.OpNeg:
		return difference(alone(n.W, 0), parts[0])
	case api.OpSlice:
		return slice(parts[0], int(n.Num), n.W)
	case api.OpZext:
		return zeroExtended(parts[0], n.W)
	case api.OpSext:
		return signExtended(parts[0], n.W)
	case api.OpIte:
		return choice(parts[0], parts[1], parts[2])
	}
	return tableFactOfTwo(n.Op, parts[0], parts[1])
}

// tableFactOfTwo: of the operations of two parts.
func tableFactOfTwo(op int, a, b api.Fact) api.Fact {
	switch op {
	case api.OpAnd, api.OpBand:
		return and(a, b)
	case api.OpOr, api.OpBor:
		return or(a, b)
	case api.OpXor, api.OpBxor:
		return xor(a, b)
	case api.OpEq:
		return equal(a, b)
	case api.OpUlt:
		return less(endsOf(a), endsOf(b))
	case api.OpUle:
		return turned(less(endsOf(b), endsOf(a)))
	case api.OpSlt:
		return less(signedEndsOf(a), signedEndsOf(b))
	case api.OpSle:
		return turned(less(signedEndsOf(b), signedEndsOf(a)))
	case api.OpAdd:
		return sum(a, b)
	case api.OpSub:
		return difference(a, b)
	case api.OpMul:
		return product(a, b)
	case api.OpDiv:
		return quotient(a, b)
	case api.OpRem:
		return remainder(a, b)
	case api.OpCat:
		return cat(a, b)
	}
	return overAmounts(b, func(n int) api.Fact { return shifted(op, a, n) }) // api.OpShl to api.OpRor
}

func and(a, b api.Fact) api.Fact {
	return api.Fact{W: a.W, One: a.One & b.One, Zero: a.Zero | b.Zero, Top: min(a.Top, b.Top)}
}

func or(a, b api.Fact) api.Fact {
	return api.Fact{W: a.W, One: a.One | b.One, Zero: a.Zero & b.Zero, Least: max(a.Least, b.Least), Top: ones(a.W)}
}

func xor(a, b api.Fact) api.Fact {
	f := nothing(a.W)
	known := (a.One | a.Zero) & (b.One | b.Zero)
	f.One = known & (a.One ^ b.One)
	f.Zero = known &^ f.One
	return f
}

func choice(a, b, c api.Fact) api.Fact {
	switch {
	case !hasOne(a):
		return join(b, c)
	case a.Least == 1:
		return b
	}
	return c
}

func cat(a, b api.Fact) api.Fact {
	joined := func(x, y uint64) uint64 { return x<<b.W | y }
	return api.Fact{
		W:   a.W + b.W,
		One: joined(a.One, b.One), Zero: joined(a.Zero, b.Zero),
		Least: joined(a.Least, b.Least), Top: joined(a.Top, b.Top),
	}
}

func slice(a api.Fact, from, w int) api.Fact {
	f := nothing(w)
	f.One, f.Zero = bits.Trim(w, a.One>>from), bits.Trim(w, a.Zero>>from)
	least, top := a.Least>>from, a.Top>>from
	// Where the bits above differ, those that are left begin anew in between.
	if least>>w == top>>w {
		f.Least, f.Top = bits.Trim(w, least), bits.Trim(w, top)
	}
	return f
}

func zeroExtended(a api.Fact, w int) api.Fact {
	a.Zero |= ones(w) - ones(a.W)
	a.W = w
	return a
}

func signExtended(a api.Fact, w int) api.Fact {
	extended := func(x uint64) uint64 { return bits.Trim(w, uint64(bits.Signed(a.W, x))) }
	f := nothing(w)
	f.One, f.Zero = extended(a.One), extended(a.Zero)
	if (a.One|a.Zero)&highest(a.W) != 0 {
		f.Least, f.Top = extended(a.Least), extended(a.Top)
	}
	return f
}
