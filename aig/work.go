package aig

import "cadence/api"

// work is what one call makes in a graph: all of its gates, or none.
type work struct {
	g      *Graph
	before int // of g.made
	full   bool
}

func (g *Graph) begin() *work { return &work{g: g, before: g.made} }

// and: 0 too where there is no room, which end then tells.
func (w *work) and(a, b uint32) uint32 {
	switch {
	case w.full || a == 0 || b == 0 || a == Not(b):
		return 0
	case a == 1 || a == b:
		return b
	case b == 1:
		return a
	}
	gate := api.Gate{A: a, B: b}
	if l, there := w.g.found[gate]; there {
		return l
	}
	if w.g.full() {
		w.full = true
		return 0
	}
	return w.g.addGate(gate)
}

func (w *work) or(a, b uint32) uint32 { return Not(w.and(Not(a), Not(b))) }

// end: what the call answers; without room, the graph is again what it was.
func (w *work) end(l uint32) (uint32, api.Errno) {
	if w.full {
		w.g.dropGates(w.before)
		return 0, api.ErrSize
	}
	return l, api.OK
}
