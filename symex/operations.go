package symex

import "cadence/api"

// operations: by kinds, those of terms. ENe has the compare of which it is the contrary; EGt and EGe have one that asks it of their parts the other way round.
var operations = [api.ELast + 1]int{
	api.ECom: api.OpCom, api.ENeg: api.OpNeg,
	api.EMul: api.OpMul, api.EDiv: api.OpDiv, api.ERem: api.OpRem, api.EAdd: api.OpAdd, api.ESub: api.OpSub,
	api.EShl: api.OpShl, api.EShr: api.OpShr, api.ERol: api.OpRol, api.ERor: api.OpRor,
	api.EAnd: api.OpBand, api.EXor: api.OpBxor, api.EOr: api.OpBor,
	api.EEq: api.OpEq, api.ENe: api.OpEq, api.ELt: api.OpUlt, api.ELe: api.OpUle, api.EGt: api.OpUlt, api.EGe: api.OpUle,
	api.ESar: api.OpSar, api.ESlt: api.OpSlt,
}

// isKind: does an operation make a word as a kind of expression does?
func isKind(op int) bool { return op >= api.ECom && op <= api.ESel }

func hasDst(op int) bool { return isKind(op) || op == api.FCopy || op == api.FLoad }

func hasArray(op int) bool { return op == api.FLoad || op == api.FStore }

// arity: how many arguments an operation has that is no if; 0, if it is none.
func arity(op int) int {
	switch op {
	case api.ECom, api.ENeg, api.FCopy, api.FLoad, api.FRelease:
		return 1
	case api.FStore:
		return 2
	case api.ESel:
		return 3
	}
	if isKind(op) {
		return 2
	}
	return 0
}

// args: all that an instruction has room for.
func args(x *api.Ins) [3]api.Arg { return [3]api.Arg{x.A, x.B, x.C} }

// made: the word that an operation makes of others.
func (s *State) made(op int, of [3]int) int {
	a, b, c := of[0], of[1], of[2]
	switch op {
	case api.FCopy:
		return a
	case api.ECom, api.ENeg:
		return s.un(operations[op], a)
	case api.EEq, api.ELt, api.ELe, api.ESlt:
		return s.flag(s.bin(operations[op], a, b))
	case api.EGt, api.EGe:
		return s.flag(s.bin(operations[op], b, a))
	case api.ENe:
		return s.flag(s.not(s.bin(operations[op], a, b)))
	case api.ESel:
		return s.ite(s.truth(a), b, c)
	}
	return s.bin(operations[op], a, b)
}

// truth: of a word.
func (s *State) truth(word int) int { return s.not(s.bin(api.OpEq, word, s.number(0))) }

// flag: the word of a truth.
func (s *State) flag(truth int) int { return s.ite(truth, s.number(1), s.number(0)) }

func (s *State) not(truth int) int { return s.un(api.OpNot, truth) }

// is: is a truth made so simple that it is this operation, OpTrue or OpFalse?
func (s *State) is(truth, op int) bool {
	n, _ := s.maker.Store().Node(truth)
	return n.Op == op
}

// The maker's calls. It refuses none of these, since all parts are of the sorts that are asked for, and its store has no limit.

func (s *State) number(x uint64) int {
	made, _ := s.maker.Const(s.width, x)
	return made
}

func (s *State) un(op, a int) int {
	made, _ := s.maker.Un(op, a)
	return made
}

func (s *State) bin(op, a, b int) int {
	made, _ := s.maker.Bin(op, a, b)
	return made
}

func (s *State) ite(c, a, b int) int {
	made, _ := s.maker.Ite(c, a, b)
	return made
}

// piece: n bits of a word, as a word.
func (s *State) piece(word, from, n int) int {
	slice, _ := s.maker.Slice(word, from, n)
	made, _ := s.maker.Ext(api.OpZext, slice, s.width)
	return made
}
