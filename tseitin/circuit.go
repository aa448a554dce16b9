package tseitin

import (
	"slices"

	"cadence/aig"
	"cadence/api"
)

// circuit is a cone in the words of clauses.
type circuit struct {
	roots     []uint32
	variables map[int]int // of the cone's nodes, by them. A map, since a cone may be small in a great graph
	gates     []gate      // in the cone's order
}

// gate: its variable, and the literals of its operands.
type gate struct{ n, a, b int }

func newCircuit(g *aig.Graph, cone []int, roots []uint32) circuit {
	c := circuit{roots: roots, variables: make(map[int]int, len(cone))}
	for i, n := range cone {
		c.variables[n] = i + 1
		if kind, node, _ := g.Node(n); kind == isGate {
			c.gates = append(c.gates, gate{i + 1, c.literal(node.A), c.literal(node.B)})
		}
	}
	return c
}

// literal: of a graph's literal; 0 of a constant, which has no variable.
func (c circuit) literal(l uint32) int {
	v := c.variables[int(l>>1)]
	if l&1 == 1 {
		return -v
	}
	return v
}

func (c circuit) noMarks() marks { return newMarks(len(c.variables)) }

// everything: as if both literals of each node were wanted.
func (c circuit) everything() marks {
	all := c.noMarks()
	for i := range all {
		all[i] = ^uint64(0)
	}
	return all
}

// wanted goes backward: what is wanted of a gate is known when all gates of which it is an operand were looked at.
func (c circuit) wanted() marks {
	m := c.noMarks()
	for _, l := range c.roots {
		if x := c.literal(l); x != 0 {
			m.add(x)
		}
	}
	for _, g := range slices.Backward(c.gates) {
		if m.has(g.n) {
			m.add(g.a)
			m.add(g.b)
		}
		if m.has(-g.n) {
			m.add(-g.a)
			m.add(-g.b)
		}
	}
	return m
}

// count: how many clauses there would be.
func (c circuit) count(chosen marks) int {
	n := 0
	for _, g := range c.gates {
		if chosen.has(g.n) {
			n += 2
		}
		if chosen.has(-g.n) {
			n++
		}
	}
	for _, l := range c.roots {
		if l != 1 {
			n++
		}
	}
	return n
}

// clauses: the chosen ones, of which there are n.
func (c circuit) clauses(chosen marks, n int) []api.Clause {
	list := make([]api.Clause, 0, n)
	lay := func(lits ...int) { list = append(list, lits) }
	for _, g := range c.gates {
		if chosen.has(g.n) {
			lay(-g.n, g.a)
			lay(-g.n, g.b)
		}
		if chosen.has(-g.n) {
			lay(g.n, -g.a, -g.b)
		}
	}
	for _, l := range c.roots {
		switch l {
		case 0:
			lay()
		case 1:
		default:
			lay(c.literal(l))
		}
	}
	return list
}
