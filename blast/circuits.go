package blast

import (
	"slices"

	"cadence/aig"
	"cadence/api"
)

// zeros: a vector of n times false.
func zeros(n int) []uint32 { return make([]uint32, n) }

// opposites: each literal turned.
func opposites(x []uint32) []uint32 {
	return each(x, func(_ int, l uint32) uint32 { return aig.Not(l) })
}

// signed: the vector whose order without sign is that of x with sign: the highest literal turned.
func signed(x []uint32) []uint32 {
	top := len(x) - 1
	return each(x, func(i int, l uint32) uint32 {
		if i == top {
			return aig.Not(l)
		}
		return l
	})
}

// sum: of x, y and a literal that comes in.
func (c *circuits) sum(x, y []uint32, carry uint32) []uint32 {
	return both(x, y, func(a, b uint32) uint32 {
		p := c.xor(a, b)
		bit := c.xor(p, carry)
		carry = c.or(c.and(a, b), c.and(carry, p))
		return bit
	})
}

// less: x is below y, without sign.
func (c *circuits) less(x, y []uint32) uint32 {
	return along(x, y, 0, func(l, a, b uint32) uint32 { return c.mux(c.xor(a, b), b, l) })
}

// same: all bits of x are those of y.
func (c *circuits) same(x, y []uint32) uint32 {
	return along(x, y, 1, func(e, a, b uint32) uint32 { return c.and(e, aig.Not(c.xor(a, b))) })
}

// pick: x where it is chosen, else y.
func (c *circuits) pick(choice uint32, x, y []uint32) []uint32 {
	return both(x, y, func(a, b uint32) uint32 { return c.mux(choice, a, b) })
}

func (c *circuits) product(x, y []uint32) []uint32 {
	r := zeros(len(x))
	for i, l := range y {
		row := each(x, func(j int, _ uint32) uint32 {
			if j < i {
				return 0
			}
			return c.and(x[j-i], l)
		})
		r = c.sum(r, row, 0)
	}
	return r
}

// quotient: with the remainder. By 0 it is all ones, and the remainder x.
func (c *circuits) quotient(x, y []uint32) (q, r []uint32) {
	n := len(x)
	q, r = zeros(n), zeros(n+1)
	z := slices.Concat(y, zeros(1))
	for i := n - 1; i >= 0; i-- {
		r = slices.Concat(x[i:i+1], r[:n])
		q[i] = aig.Not(c.less(r, z))
		d := c.sum(r, opposites(z), 1)
		r = c.pick(q[i], d, r)
	}
	return q, r[:n]
}

// shift moves x by 1, 2, 4 and so on places, where the bits of y say so.
func (c *circuits) shift(x, y []uint32, by func(x []uint32, m int) []uint32) []uint32 {
	for k := 0; 1<<k < len(x); k++ {
		x = c.pick(y[k], by(x, 1<<k), x)
	}
	return x
}

// moving: how a shift or a turn moves a vector by m places, fewer than it has.
func moving(op int) func(x []uint32, m int) []uint32 {
	return func(x []uint32, m int) []uint32 {
		n := len(x)
		return each(x, func(i int, _ uint32) uint32 {
			switch {
			case op == api.OpShl && i >= m:
				return x[i-m]
			case op == api.OpShr && i+m < n:
				return x[i+m]
			case op == api.OpSar:
				return x[min(i+m, n-1)]
			case op == api.OpRol:
				return x[(i-m+n)%n]
			case op == api.OpRor:
				return x[(i+m)%n]
			}
			return 0
		})
	}
}
