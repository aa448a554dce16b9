package run

import (
	"cadence/api"
	"cadence/bits"
)

// operations: by kinds of expressions, those of bits.
var operations = [api.ELast + 1]int{
	api.ECom: api.OpCom,
	api.ENeg: api.OpNeg,
	api.EMul: api.OpMul,
	api.EDiv: api.OpDiv,
	api.ERem: api.OpRem,
	api.EAdd: api.OpAdd,
	api.ESub: api.OpSub,
	api.EShl: api.OpShl,
	api.EShr: api.OpShr,
	api.ERol: api.OpRol,
	api.ERor: api.OpRor,
	api.EAnd: api.OpBand,
	api.EXor: api.OpBxor,
	api.EOr:  api.OpBor,
	api.ESar: api.OpSar,
}

// expr: the word of an expression, whose parts are gone through from the left.
func (m *machine) expr(e *api.Expr) uint64 {
	switch e.Kind {
	case api.ENum:
		return e.Num
	case api.EName:
		return *m.single(e.Name)
	case api.ELoad:
		return *m.touched(api.EvLoad, e.Name, m.expr(&e.Kids[0]))
	}
	var words [3]uint64 // no kind has more parts
	for i := range e.Kids {
		words[i] = m.expr(&e.Kids[i])
	}
	return m.operation(e.Kind, words)
}

// operation: the word that a kind makes of those of its parts.
func (m *machine) operation(kind int, words [3]uint64) uint64 {
	x, y := words[0], words[1]
	switch kind {
	case api.ECom, api.ENeg:
		word, _ := bits.Un(operations[kind], m.program.Width, x)
		return word
	case api.ESel:
		if x != 0 {
			return y
		}
		return words[2]
	case api.EEq, api.ENe, api.ELt, api.ELe, api.EGt, api.EGe, api.ESlt:
		return truth(m.compare(kind, x, y))
	case api.EDiv, api.ERem:
		m.onlooker.see(api.Event{Kind: api.EvDivide, A: x, B: y})
	}
	word, _ := bits.Bin(operations[kind], m.program.Width, x, y)
	return word
}

// compare: does a kind of compare hold of two words?
func (m *machine) compare(kind int, x, y uint64) bool {
	switch kind {
	case api.EEq:
		return x == y
	case api.ENe:
		return x != y
	case api.ELt:
		return x < y
	case api.ELe:
		return x <= y
	case api.EGt:
		return x > y
	case api.EGe:
		return x >= y
	default: // api.ESlt
		return bits.Signed(m.program.Width, x) < bits.Signed(m.program.Width, y)
	}
}

// truth: 1, if something is so, else 0.
func truth(is bool) uint64 {
	if is {
		return 1
	}
	return 0
}
