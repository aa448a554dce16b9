package known

import (
	"cadence/api"
	"cadence/eval"
	"cadence/term"
)

// partsOf: how many parts an operation has.
func partsOf(op int) int {
	switch op {
	case api.OpTrue, api.OpFalse, api.OpConst, api.OpVar:
		return 0
	case api.OpNot, api.OpCom, api.OpNeg, api.OpSlice, api.OpZext, api.OpSext:
		return 1
	case api.OpIte:
		return 3
	}
	return 2
}

// fits: may a node of that operation have its width, its number, and parts of these widths?
func fits(n api.Node, parts []api.Fact) bool {
	if n.Num != 0 && n.Op != api.OpConst && n.Op != api.OpSlice {
		return false
	}
	var of [3]int
	for i, f := range parts {
		of[i] = f.W
	}
	a, b, c := of[0], of[1], of[2]
	switch n.Op {
	case api.OpVar:
		return true
	case api.OpConst:
		return n.W > 0 && n.Num <= ones(n.W)
	case api.OpTrue, api.OpFalse, api.OpNot, api.OpAnd, api.OpOr, api.OpXor:
		return n.W == 0 && a == 0 && b == 0
	case api.OpEq:
		return n.W == 0 && a == b
	case api.OpUlt, api.OpUle, api.OpSlt, api.OpSle:
		return n.W == 0 && a > 0 && a == b
	case api.OpIte:
		return a == 0 && n.W == b && b == c
	case api.OpCom, api.OpNeg:
		return a > 0 && n.W == a
	case api.OpShl, api.OpShr, api.OpSar, api.OpRol, api.OpRor:
		return a > 0 && a == b && n.W == a && a&(a-1) == 0
	case api.OpCat:
		return a > 0 && b > 0 && n.W == a+b
	case api.OpSlice:
		// The first bit may be so great that no sum with it can be made.
		return n.W > 0 && n.W <= a && n.Num <= uint64(a-n.W)
	case api.OpZext, api.OpSext:
		return a > 0 && n.W >= a
	}
	return a > 0 && a == b && n.W == a // api.OpBand to api.OpRem
}

// factOf: of a node with settled facts of its parts, which fit it.
func factOf(n api.Node, parts []api.Fact) api.Fact {
	if n.Op == api.OpVar {
		return nothing(n.W)
	}
	open := false
	for _, f := range parts {
		open = open || !hasOne(f)
	}
	if !open {
		return alone(n.W, valueOf(n, parts))
	}
	// What the table tells of the words of its parts' facts holds for some, and so there is one.
	f, _ := settle(tableFact(n, parts))
	return f
}

// valueOf: what eval tells of a node whose parts have one word each: the parts are made as constants, in a store of their own.
func valueOf(n api.Node, parts []api.Fact) uint64 {
	s, _ := term.New(0)
	var made [3]int
	for i, f := range parts {
		if f.W == 0 {
			made[i], _ = s.Truth(f.Least == 1)
		} else {
			made[i], _ = s.Const(f.W, f.Least)
		}
	}
	t, _ := s.Make(api.Node{Op: n.Op, W: n.W, A: made[0], B: made[1], C: made[2], Num: n.Num})
	x, _ := eval.Value(s, t, nil)
	return x
}
