package term

import (
	"cadence/api"
	"cadence/bits"
)

// The others: Make of the node that is meant (P703).

// Truth: the truth that b says.
func (s *Store) Truth(b bool) (int, api.Errno) {
	if b {
		return s.Make(api.Node{Op: api.OpTrue})
	}
	return s.Make(api.Node{Op: api.OpFalse})
}

// Const: the word of the lowest w bits of x.
func (s *Store) Const(w int, x uint64) (int, api.Errno) {
	return s.Make(api.Node{Op: api.OpConst, W: w, Num: bits.Trim(w, x)})
}

// Var: the variable of that name.
func (s *Store) Var(name string, w int) (int, api.Errno) {
	return s.Make(api.Node{Op: api.OpVar, W: w, Name: name})
}

// Un: OpNot, OpCom or OpNeg of one term.
func (s *Store) Un(op, a int) (int, api.Errno) {
	if op != api.OpNot && op != api.OpCom && op != api.OpNeg {
		return 0, api.ErrOp
	}
	return s.Make(s.meant(op, a, 0, 0))
}

// Bin: an operation of two terms.
func (s *Store) Bin(op, a, b int) (int, api.Errno) {
	// A number that is no operation is refused likewise, by Make.
	if partsOf(op) != 2 {
		return 0, api.ErrOp
	}
	return s.Make(s.meant(op, a, b, 0))
}

// Ite: a where c is true, else b.
func (s *Store) Ite(c, a, b int) (int, api.Errno) {
	return s.Make(s.meant(api.OpIte, c, a, b))
}

// Slice: n bits of a, the first one of them from.
func (s *Store) Slice(a, from, n int) (int, api.Errno) {
	return s.Make(api.Node{Op: api.OpSlice, W: n, A: a, Num: uint64(from)})
}

// Ext: OpZext or OpSext of a, to w bits.
func (s *Store) Ext(op, a, w int) (int, api.Errno) {
	if op != api.OpZext && op != api.OpSext {
		return 0, api.ErrOp
	}
	return s.Make(api.Node{Op: op, W: w, A: a})
}

// meant: the node of an operation whose W its parts tell.
func (s *Store) meant(op, a, b, c int) api.Node {
	of := sorts{s.width(a), s.width(b), s.width(c)}
	return api.Node{Op: op, W: meantWidth(op, of), A: a, B: b, C: c}
}
