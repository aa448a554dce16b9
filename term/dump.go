package term

import (
	"strconv"

	"cadence/api"
	"cadence/bits"
)

// opWords: the word of each operation in a text, by its number.
var opWords = [...]string{
	api.OpTrue: "true", api.OpFalse: "false", api.OpConst: "const", api.OpVar: "var",
	api.OpNot: "not", api.OpAnd: "and", api.OpOr: "or", api.OpXor: "xor",
	api.OpEq: "eq", api.OpUlt: "ult", api.OpUle: "ule", api.OpSlt: "slt", api.OpSle: "sle",
	api.OpIte: "ite", api.OpCom: "com", api.OpNeg: "neg",
	api.OpBand: "band", api.OpBor: "bor", api.OpBxor: "bxor",
	api.OpAdd: "add", api.OpSub: "sub", api.OpMul: "mul", api.OpDiv: "div", api.OpRem: "rem",
	api.OpShl: "shl", api.OpShr: "shr", api.OpSar: "sar", api.OpRol: "rol", api.OpRor: "ror",
	api.OpCat: "cat", api.OpSlice: "slice", api.OpZext: "zext", api.OpSext: "sext",
}

// rootsWord begins the line behind the terms' lines.
const rootsWord = "roots"

// Dump: what roots lead to, as text: a line a term, then the roots (P706).
func (s *Store) Dump(roots ...int) (string, api.Errno) {
	order, e := s.Order(roots...)
	if e != api.OK {
		return "", e
	}
	d := dump{lines: make(map[int]int, len(order))}
	for i, t := range order {
		d.lines[t] = i + 1
		d.term(t, s.nodes[t-1])
	}
	d.text = append(d.text, rootsWord...)
	for _, t := range roots {
		d.line(t)
	}
	d.text = append(d.text, '\n')
	return string(d.text), api.OK
}

// dump: a text of terms, as far as it is written.
type dump struct {
	text  []byte
	lines map[int]int // the number of each term's line
}

// term writes a term's line.
func (d *dump) term(t int, n api.Node) {
	d.text = strconv.AppendInt(d.text, int64(d.lines[t]), 10)
	d.word(opWords[n.Op])
	if n.Op == api.OpVar {
		d.word(n.Name)
	}
	for _, part := range [...]int{n.A, n.B, n.C} {
		if part > 0 {
			d.line(part)
		}
	}
	switch n.Op {
	case api.OpConst:
		d.number(n.W)
		d.word(bits.Text(n.Num))
	case api.OpVar, api.OpZext, api.OpSext:
		d.number(n.W)
	case api.OpSlice:
		d.number(int(n.Num))
		d.number(n.W)
	}
	d.text = append(d.text, '\n')
}

// line writes the number of a term's line.
func (d *dump) line(t int) { d.number(d.lines[t]) }

func (d *dump) number(n int) {
	d.text = append(d.text, ' ')
	d.text = strconv.AppendInt(d.text, int64(n), 10)
}

func (d *dump) word(w string) {
	d.text = append(d.text, ' ')
	d.text = append(d.text, w...)
}
