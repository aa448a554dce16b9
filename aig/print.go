package aig

import (
	"strconv"

	"cadence/api"
)

// Print: the inputs, the cone's gates and the roots as text (F10.8).
func (g *Graph) Print(roots []uint32) (string, api.Errno) {
	if e := g.refusal(roots...); e != api.OK {
		return "", e
	}
	inputs := uint32(g.Inputs())
	written := newTable[uint32](roots)
	var gates []api.Gate
	for _, n := range g.cone(roots) {
		if kind, gate := g.node(n); kind == isInput {
			written.set(n, 2*(gate.A+1))
		} else {
			gates = append(gates, api.Gate{A: through(written, gate.A), B: through(written, gate.B)})
			written.set(n, 2*(inputs+uint32(len(gates))))
		}
	}
	made := uint32(len(gates))
	text := addLine([]byte("aag "), inputs+made, inputs, 0, uint32(len(roots)), made)
	for i := range inputs {
		text = addLine(text, 2*(i+1))
	}
	for _, l := range roots {
		text = addLine(text, through(written, l))
	}
	for i, gate := range gates {
		text = addLine(text, 2*(inputs+uint32(i)+1), gate.A, gate.B)
	}
	return string(text), api.OK
}

func addLine(text []byte, numbers ...uint32) []byte {
	for i, n := range numbers {
		if i > 0 {
			text = append(text, ' ')
		}
		text = strconv.AppendUint(text, uint64(n), 10)
	}
	return append(text, '\n')
}
