package blast

import (
	"slices"

	"cadence/aig"
	"cadence/api"
)

// lay: the vector of a term whose parts are known, by its operation.
func (b *Blaster) lay(c *circuits, n api.Node) []uint32 {
	x, y, z := b.vector(n.A), b.vector(n.B), b.vector(n.C)
	switch n.Op {
	case api.OpTrue:
		return []uint32{1}
	case api.OpFalse:
		return []uint32{0}
	case api.OpConst:
		return constant(n)
	case api.OpVar:
		return b.variable(c, n)
	case api.OpIte:
		return c.pick(x[0], y, z)
	case api.OpSlice:
		return x[n.Num:][:n.W]
	case api.OpZext:
		return stretched(x, n.W, 0)
	case api.OpSext:
		return stretched(x, n.W, x[len(x)-1])
	}
	if n.W == 0 {
		return []uint32{c.truth(n.Op, x, y)}
	}
	return c.word(n.Op, x, y)
}

// truth: the literal of a truth of one part or two.
func (c *circuits) truth(op int, x, y []uint32) uint32 {
	switch op {
	case api.OpNot:
		return aig.Not(x[0])
	case api.OpAnd:
		return c.and(x[0], y[0])
	case api.OpOr:
		return c.or(x[0], y[0])
	case api.OpXor:
		return c.xor(x[0], y[0])
	case api.OpUlt:
		return c.less(x, y)
	case api.OpUle:
		return aig.Not(c.less(y, x))
	case api.OpSlt:
		return c.less(signed(x), signed(y))
	case api.OpSle:
		return aig.Not(c.less(signed(y), signed(x)))
	}
	return c.same(x, y)
}

// word: the vector of a word of one part or two.
func (c *circuits) word(op int, x, y []uint32) []uint32 {
	switch op {
	case api.OpCom:
		return opposites(x)
	case api.OpNeg:
		return c.sum(zeros(len(x)), opposites(x), 1)
	case api.OpBand:
		return both(x, y, c.and)
	case api.OpBor:
		return both(x, y, c.or)
	case api.OpBxor:
		return both(x, y, c.xor)
	case api.OpAdd:
		return c.sum(x, y, 0)
	case api.OpSub:
		return c.sum(x, opposites(y), 1)
	case api.OpMul:
		return c.product(x, y)
	case api.OpDiv:
		q, _ := c.quotient(x, y)
		return q
	case api.OpRem:
		_, r := c.quotient(x, y)
		return r
	case api.OpCat:
		return slices.Concat(y, x)
	}
	return c.shift(x, y, moving(op))
}

func constant(n api.Node) []uint32 {
	return each(zeros(n.W), func(i int, _ uint32) uint32 { return uint32(n.Num >> i & 1) })
}

// variable: a new input for each bit. Those that were made ahead of a refusal are in the graph, and so they are told too.
func (b *Blaster) variable(c *circuits, n api.Node) []uint32 {
	return each(zeros(lengthOf(n.W)), func(i int, _ uint32) uint32 {
		l := c.input()
		if c.refusal == api.OK {
			b.inputs = append(b.inputs, Input{Name: n.Name, W: n.W, Bit: i})
		}
		return l
	})
}

// stretched: x, and above it the literal, up to w literals.
func stretched(x []uint32, w int, above uint32) []uint32 {
	return each(zeros(w), func(i int, _ uint32) uint32 {
		if i < len(x) {
			return x[i]
		}
		return above
	})
}
