package flat

import (
	"cadence/api"
	"cadence/bits"
)

// words: how Text calls the operations that make a word of others.
var words = [api.FCopy + 1]string{
	api.ECom: "com", api.ENeg: "neg",
	api.EMul: "mul", api.EDiv: "div", api.ERem: "rem", api.EAdd: "add", api.ESub: "sub",
	api.EShl: "shl", api.EShr: "shr", api.ERol: "rol", api.ERor: "ror",
	api.EAnd: "and", api.EXor: "xor", api.EOr: "or",
	api.EEq: "eq", api.ENe: "ne", api.ELt: "lt", api.ELe: "le", api.EGt: "gt", api.EGe: "ge",
	api.ESar: "sar", api.ESlt: "slt", api.ESel: "sel",
	api.FCopy: "copy",
}

// operations: by kinds, those of bits. ENe, EGt and EGe have the compare of which they are the contrary.
var operations = [api.ELast + 1]int{
	api.ECom: api.OpCom, api.ENeg: api.OpNeg,
	api.EMul: api.OpMul, api.EDiv: api.OpDiv, api.ERem: api.OpRem, api.EAdd: api.OpAdd, api.ESub: api.OpSub,
	api.EShl: api.OpShl, api.EShr: api.OpShr, api.ERol: api.OpRol, api.ERor: api.OpRor,
	api.EAnd: api.OpBand, api.EXor: api.OpBxor, api.EOr: api.OpBor,
	api.EEq: api.OpEq, api.ENe: api.OpEq, api.ELt: api.OpUlt, api.ELe: api.OpUle, api.EGt: api.OpUle, api.EGe: api.OpUlt,
	api.ESar: api.OpSar, api.ESlt: api.OpSlt,
}

// isKind: does an operation make a word as a kind of expression does?
func isKind(op int) bool { return op >= api.ECom && op <= api.ESel }

// isDivision: is it seen, with its operands?
func isDivision(op int) bool { return op == api.EDiv || op == api.ERem }

// isQuiet: such a kind that nobody sees.
func isQuiet(op int) bool { return isKind(op) && !isDivision(op) }

func hasDst(op int) bool { return isKind(op) || op == api.FCopy || op == api.FLoad }

func hasArray(op int) bool { return op == api.FLoad || op == api.FStore }

// arity: how many arguments an operation has; 0, if it is none.
func arity(op int) int {
	switch op {
	case api.ECom, api.ENeg, api.FCopy, api.FLoad, api.FIf, api.FRelease:
		return 1
	case api.FStore:
		return 2
	case api.ESel:
		return 3
	}
	if isKind(op) {
		return 2
	}
	return 0
}

// args: the arguments that an instruction has.
func args(x *api.Ins) []*api.Arg { return []*api.Arg{&x.A, &x.B, &x.C}[:arity(x.Op)] }

// number: the argument that is a number.
func number(n uint64) api.Arg { return api.Arg{Temp: -1, Num: n} }

// temp: the argument that is a temp.
func temp(n int) api.Arg { return api.Arg{Temp: n} }

func isNumber(a api.Arg) bool { return a.Temp < 0 }

// constant: the number that comes out of an instruction that nobody sees, if its arguments are all numbers.
func constant(width int, x *api.Ins) (uint64, bool) {
	if !isQuiet(x.Op) {
		return 0, false
	}
	var of [3]uint64
	for i, a := range args(x) {
		if !isNumber(*a) {
			return 0, false
		}
		of[i] = a.Num
	}
	return made(x.Op, width, of), true
}

// made: the word that a kind makes of others.
func made(kind, width int, of [3]uint64) uint64 {
	switch kind {
	case api.ECom, api.ENeg:
		word, _ := bits.Un(operations[kind], width, of[0])
		return word
	case api.EEq, api.ELt, api.ELe, api.ESlt:
		holds, _ := bits.Cmp(operations[kind], width, of[0], of[1])
		return truth(holds)
	case api.ENe, api.EGt, api.EGe:
		holds, _ := bits.Cmp(operations[kind], width, of[0], of[1])
		return truth(!holds)
	case api.ESel:
		if of[0] != 0 {
			return of[1]
		}
		return of[2]
	}
	word, _ := bits.Bin(operations[kind], width, of[0], of[1])
	return word
}

// truth: 1, if something is so, else 0.
func truth(is bool) uint64 {
	if is {
		return 1
	}
	return 0
}
