package aig

import "cadence/api"

// Lay makes a cone of h in g, with literals of g for h's inputs (F10.7).
func (g *Graph) Lay(h *Graph, in []uint32, roots []uint32) ([]uint32, api.Errno) {
	if g == nil {
		return nil, api.ErrNil
	}
	if e := h.refusalOf(len(in), roots); e != api.OK {
		return nil, e
	}
	if e := g.refusal(in...); e != api.OK {
		return nil, e
	}
	w := g.begin()
	laid := newTable[uint32](roots)
	for _, n := range h.cone(roots) {
		if kind, gate := h.node(n); kind == isInput {
			laid.set(n, in[gate.A])
		} else {
			laid.set(n, w.and(through(laid, gate.A), through(laid, gate.B)))
		}
	}
	if _, e := w.end(0); e != api.OK {
		return nil, e
	}
	out := make([]uint32, len(roots))
	for i, l := range roots {
		out[i] = through(laid, l)
	}
	return out, api.OK
}

// through: what a literal becomes where its node becomes another literal.
func through(nodes table[uint32], l uint32) uint32 { return turned(nodes.of(l), l) }

// turned: a literal, or its opposite where by is odd.
func turned(l, by uint32) uint32 { return l ^ by&1 }
