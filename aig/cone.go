package aig

import "cadence/api"

// Cone: the nodes that the roots hang on, operands ahead of their gates (F10.5).
func (g *Graph) Cone(roots []uint32) ([]int, api.Errno) {
	if e := g.refusal(roots...); e != api.OK {
		return nil, e
	}
	return g.cone(roots), api.OK
}

// Depth: of the deepest root (F10.5).
func (g *Graph) Depth(roots []uint32) (int, api.Errno) {
	if e := g.refusal(roots...); e != api.OK {
		return 0, e
	}
	depths := newTable[int](roots)
	for _, n := range g.cone(roots) {
		if kind, gate := g.node(n); kind == isGate {
			depths.set(n, 1+max(depths.of(gate.A), depths.of(gate.B)))
		}
	}
	deepest := 0
	for _, l := range roots {
		deepest = max(deepest, depths.of(l))
	}
	return deepest, api.OK
}

// cone is Cone of roots that may be.
func (g *Graph) cone(roots []uint32) []int {
	met := newTable[bool](roots)
	met.set(0, true)
	var cone, stack []int
	for _, l := range roots {
		if !met.of(l) {
			stack = append(stack, nodeOf(l))
		}
		for len(stack) > 0 {
			n := stack[len(stack)-1]
			if next := g.unmet(n, met); next != 0 {
				stack = append(stack, next)
				continue
			}
			stack = stack[:len(stack)-1]
			met.set(n, true)
			cone = append(cone, n)
		}
	}
	return cone
}

// unmet: the first operand's node that was not met yet; 0 if there is none.
func (g *Graph) unmet(n int, met table[bool]) int {
	kind, gate := g.node(n)
	switch {
	case kind != isGate:
		return 0
	case !met.of(gate.A):
		return nodeOf(gate.A)
	case !met.of(gate.B):
		return nodeOf(gate.B)
	}
	return 0
}
