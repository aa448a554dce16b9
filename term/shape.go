package term

import (
	"cadence/api"
	"cadence/bits"
)

// sorts: of a node's parts A, B, C; 0 where there is none.
type sorts struct{ a, b, c int }

// refusal: why a node may be none of the store's, by the first of P702's errors; api.OK, if it may.
func (s *Store) refusal(n api.Node) api.Errno {
	switch {
	case n.Op < api.OpTrue || n.Op > api.OpLast:
		return api.ErrOp
	case n.W < 0 || n.W > api.MaxWidth:
		return api.ErrWidth
	case !s.hasParts(n):
		return api.ErrTerm
	case !isBare(n):
		return api.ErrArg
	}
	of := sorts{s.width(n.A), s.width(n.B), s.width(n.C)}
	switch {
	case !sortsFit(n.Op, of):
		return api.ErrSort
	case !widthFits(n, of):
		return api.ErrWidth
	case n.Op == api.OpVar && !s.nameFits(n):
		return api.ErrName
	}
	return api.OK
}

// partsOf: how many parts an operation has.
func partsOf(op int) int {
	switch op {
	case api.OpTrue, api.OpFalse, api.OpConst, api.OpVar:
		return 0
	case api.OpNot, api.OpCom, api.OpNeg, api.OpSlice, api.OpZext, api.OpSext:
		return 1
	case api.OpIte:
		return 3
	}
	return 2
}

// hasParts: are the parts that the operation has terms?
func (s *Store) hasParts(n api.Node) bool {
	count := partsOf(n.Op)
	return (count < 1 || s.has(n.A)) && (count < 2 || s.has(n.B)) && (count < 3 || s.has(n.C))
}

// isBare: is every field empty that the operation has not got?
func isBare(n api.Node) bool {
	count := partsOf(n.Op)
	return (count >= 1 || n.A == 0) && (count >= 2 || n.B == 0) && (count >= 3 || n.C == 0) &&
		(n.Op == api.OpConst || n.Op == api.OpSlice || n.Num == 0) &&
		(n.Op == api.OpVar || n.Name == "")
}

// sortsFit: are the parts of the sorts that the operation asks for?
func sortsFit(op int, of sorts) bool {
	switch op {
	case api.OpTrue, api.OpFalse, api.OpConst, api.OpVar:
		return true
	case api.OpNot, api.OpAnd, api.OpOr, api.OpXor:
		return of.a == 0 && of.b == 0
	case api.OpEq:
		return of.a == of.b
	case api.OpIte:
		return of.a == 0 && of.b == of.c
	case api.OpCom, api.OpNeg, api.OpSlice, api.OpZext, api.OpSext:
		return of.a > 0
	case api.OpCat:
		return of.a > 0 && of.b > 0
	}
	return of.a > 0 && of.a == of.b
}

// widthFits: is W what the operation makes of parts of these sorts, which fit it?
func widthFits(n api.Node, of sorts) bool {
	switch n.Op {
	case api.OpConst:
		return n.W > 0 && bits.Trim(n.W, n.Num) == n.Num
	case api.OpVar:
		return true
	case api.OpShl, api.OpShr, api.OpSar, api.OpRol, api.OpRor:
		return n.W == of.a && n.W&(n.W-1) == 0
	case api.OpCat:
		return n.W == of.a+of.b
	case api.OpSlice:
		// The first bit may be so great that no sum with it can be made.
		return n.W > 0 && n.W <= of.a && n.Num <= uint64(of.a-n.W)
	case api.OpZext, api.OpSext:
		return n.W >= of.a
	}
	return n.W == meantWidth(n.Op, of)
}

// meantWidth: the W of an operation where its parts' sorts tell it; 0, where no word is so wide.
func meantWidth(op int, of sorts) int {
	switch {
	case op == api.OpIte:
		return of.b
	case op >= api.OpCom && op <= api.OpRor:
		return of.a
	case op == api.OpCat && of.a+of.b <= api.MaxWidth:
		return of.a + of.b
	}
	return 0
}

// nameFits: is it a name, and has no variable of another W got it?
func (s *Store) nameFits(n api.Node) bool {
	if !bits.Name(n.Name) {
		return false
	}
	w, there := s.widths[n.Name]
	return !there || w == n.W
}
