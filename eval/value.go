package eval

import (
	"cadence/api"
	"cadence/bits"
	"cadence/term"
)

// valuation: the values of terms, as far as they are found.
type valuation struct {
	store  *term.Store
	told   map[string]api.Value // of variables, by their names
	values notes[uint64]
}

// of: the value of a node whose parts have theirs. A store's nodes are right, so that bits refuses none.
func (v *valuation) of(n api.Node) uint64 {
	a, b, c := v.values.at(n.A), v.values.at(n.B), v.values.at(n.C)
	var x uint64
	switch n.Op {
	case api.OpTrue:
		return 1
	case api.OpFalse:
		return 0
	case api.OpConst:
		return n.Num
	case api.OpVar:
		return v.told[n.Name].Num
	case api.OpNot:
		return 1 - a
	case api.OpAnd:
		return a & b
	case api.OpOr:
		return a | b
	case api.OpXor:
		return a ^ b
	case api.OpEq: // of truths too, which bits.Cmp does not know
		return truth(a == b)
	case api.OpUlt, api.OpUle, api.OpSlt, api.OpSle:
		is, _ := bits.Cmp(n.Op, widthOf(v.store, n.A), a, b)
		return truth(is)
	case api.OpIte:
		if a == 1 {
			return b
		}
		return c
	case api.OpCom, api.OpNeg:
		x, _ = bits.Un(n.Op, n.W, a)
	case api.OpCat:
		x, _ = bits.Cat(widthOf(v.store, n.A), a, widthOf(v.store, n.B), b)
	case api.OpSlice:
		x, _ = bits.Slice(widthOf(v.store, n.A), a, int(n.Num), n.W)
	case api.OpZext, api.OpSext:
		x, _ = bits.Ext(n.Op, widthOf(v.store, n.A), a, n.W)
	default: // api.OpBand to api.OpRor
		x, _ = bits.Bin(n.Op, n.W, a, b)
	}
	return x
}

// truth: as a value.
func truth(is bool) uint64 {
	if is {
		return 1
	}
	return 0
}
