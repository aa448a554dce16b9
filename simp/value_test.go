package simp

import (
	"math/big"

	"cadence/api"
)

// plainWordOf: of a node of constants: the constant or the truth that it is, told on whole numbers.
func plainWordOf(n *tree) *tree {
	var x []*big.Int
	for _, kid := range n.kids {
		x = append(x, new(big.Int).SetUint64(kid.num))
	}
	if n.w == 0 {
		if plainTruth(n.op, x, n.kids[0].w) {
			return newTree(api.OpTrue, 0, 0, "")
		}
		return newTree(api.OpFalse, 0, 0, "")
	}
	z := plainWord(n, x)
	return newTree(api.OpConst, n.w, z.Mod(z, power(n.w)).Uint64(), "")
}

// power: of two.
func power(n int) *big.Int { return new(big.Int).Lsh(big.NewInt(1), uint(n)) }

// signed: the signed number of a word.
func signed(x *big.Int, w int) *big.Int {
	if x.Bit(w-1) == 0 {
		return x
	}
	return new(big.Int).Sub(x, power(w))
}

func plainTruth(op int, x []*big.Int, w int) bool {
	switch op {
	case api.OpEq:
		return x[0].Cmp(x[1]) == 0
	case api.OpUlt:
		return x[0].Cmp(x[1]) < 0
	case api.OpSlt:
		return signed(x[0], w).Cmp(signed(x[1], w)) < 0
	}
	panic(op)
}

// plainWord: what goes beyond W is not gone yet.
func plainWord(n *tree, x []*big.Int) *big.Int {
	z := new(big.Int)
	switch n.op {
	case api.OpCom:
		return z.Not(x[0])
	case api.OpNeg:
		return z.Neg(x[0])
	case api.OpCat:
		return z.Add(z.Lsh(x[0], uint(n.kids[1].w)), x[1])
	case api.OpSlice:
		return z.Rsh(x[0], uint(n.num))
	case api.OpZext:
		return z.Set(x[0])
	case api.OpSext:
		return z.Set(signed(x[0], n.kids[0].w))
	case api.OpBand:
		return z.And(x[0], x[1])
	case api.OpBor:
		return z.Or(x[0], x[1])
	case api.OpBxor:
		return z.Xor(x[0], x[1])
	case api.OpAdd:
		return z.Add(x[0], x[1])
	case api.OpSub:
		return z.Sub(x[0], x[1])
	case api.OpMul:
		return z.Mul(x[0], x[1])
	case api.OpDiv:
		if x[1].Sign() == 0 {
			return z.Sub(power(n.w), big.NewInt(1))
		}
		return z.Div(x[0], x[1])
	case api.OpRem:
		if x[1].Sign() == 0 {
			return z.Set(x[0])
		}
		return z.Mod(x[0], x[1])
	}
	by := uint(new(big.Int).Mod(x[1], ofInt(n.w)).Uint64())
	back := uint(n.w) - by
	switch n.op {
	case api.OpShl:
		return z.Lsh(x[0], by)
	case api.OpShr:
		return z.Rsh(x[0], by)
	case api.OpSar:
		return z.Rsh(signed(x[0], n.w), by)
	case api.OpRol:
		return z.Add(z.Lsh(x[0], by), new(big.Int).Rsh(x[0], back))
	case api.OpRor:
		return z.Add(z.Lsh(x[0], back), new(big.Int).Rsh(x[0], by))
	}
	panic(n.op)
}
