package ops

import "cadence/api"

// operations: by kinds, those of terms. ENe has the compare of which it is the contrary; EGt and EGe have one that asks it of their parts the other way round.
var operations = [api.ELast + 1]int{
	api.ECom: api.OpCom, api.ENeg: api.OpNeg,
	api.EMul: api.OpMul, api.EDiv: api.OpDiv, api.ERem: api.OpRem, api.EAdd: api.OpAdd, api.ESub: api.OpSub,
	api.EShl: api.OpShl, api.EShr: api.OpShr, api.ERol: api.OpRol, api.ERor: api.OpRor,
	api.EAnd: api.OpBand, api.EXor: api.OpBxor, api.EOr: api.OpBor,
	api.EEq: api.OpEq, api.ENe: api.OpEq, api.ELt: api.OpUlt, api.ELe: api.OpUle, api.EGt: api.OpUlt, api.EGe: api.OpUle,
	api.ESar: api.OpSar, api.ESlt: api.OpSlt,
}

// isKind: does an operation make a word as a kind of expression does?
func isKind(op int) bool { return op >= api.ECom && op <= api.ESel }

// HasDst: does an instruction with this operation make a word?
func HasDst(op int) bool { return isKind(op) || op == api.FCopy || op == api.FLoad }

// HasArray: does it load, or store?
func HasArray(op int) bool { return op == api.FLoad || op == api.FStore }

// Arity: how many arguments an operation has; 0, if it is none.
func Arity(op int) int {
	switch op {
	case api.ECom, api.ENeg, api.FCopy, api.FLoad, api.FRelease, api.FIf:
		return 1
	case api.FStore:
		return 2
	case api.ESel:
		return 3
	}
	if isKind(op) {
		return 2
	}
	return 0
}

// Args: all that an instruction has room for.
func Args(x *api.Ins) [3]api.Arg { return [3]api.Arg{x.A, x.B, x.C} }

// IsInput: has a declaration words that are handed in?
func IsInput(d *api.Decl) bool { return d.Kind == api.DPublic || d.Kind == api.DSecret }

// Count: how many words a declaration has.
func Count(d *api.Decl) int { return max(d.Size, 1) }
