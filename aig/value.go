package aig

import "cadence/api"

// Eval: the values of the roots (F10.6).
func (g *Graph) Eval(in []bool, roots []uint32) ([]bool, api.Errno) {
	if e := g.refusalOf(len(in), roots); e != api.OK {
		return nil, e
	}
	words := g.words(roots, func(i uint32) uint64 {
		if in[i] {
			return 1
		}
		return 0
	})
	out := make([]bool, len(words))
	for i, w := range words {
		out[i] = w&1 == 1
	}
	return out, api.OK
}

// Sim: the values of the roots in 64 rows (F10.6).
func (g *Graph) Sim(in []uint64, roots []uint32) ([]uint64, api.Errno) {
	if e := g.refusalOf(len(in), roots); e != api.OK {
		return nil, e
	}
	return g.words(roots, func(i uint32) uint64 { return in[i] }), api.OK
}

// refusalOf: roots, and so many values for the inputs.
func (g *Graph) refusalOf(values int, roots []uint32) api.Errno {
	if e := g.refusal(roots...); e != api.OK {
		return e
	}
	if values != g.Inputs() {
		return api.ErrArg
	}
	return api.OK
}

// words: of the roots, a bit a row, where input tells those of the inputs by their numbers.
func (g *Graph) words(roots []uint32, input func(i uint32) uint64) []uint64 {
	values := newTable[uint64](roots)
	word := func(l uint32) uint64 {
		turn := -uint64(l & 1) // all rows, or none
		return values.of(l) ^ turn
	}
	for _, n := range g.cone(roots) {
		if kind, gate := g.node(n); kind == isInput {
			values.set(n, input(gate.A))
		} else {
			values.set(n, word(gate.A)&word(gate.B))
		}
	}
	out := make([]uint64, len(roots))
	for i, l := range roots {
		out[i] = word(l)
	}
	return out
}
