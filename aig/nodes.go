package aig

import (
	"math/bits"
	"slices"

	"cadence/api"
)

// What Node says that a node is.
const (
	isFalse = 0
	isInput = 1
	isGate  = 2
)

// block is 64 nodes in a row: a bit each, set of a gate. Behind the last gate there need be none: so inputs, of which a graph may have very many, take little room.
type block struct {
	gates uint64
	ahead int // gates in the blocks ahead of it
}

// Nodes: how many, node 0 too (F10.4).
func (g *Graph) Nodes() int {
	if g == nil {
		return 0
	}
	return g.made + 1
}

// Inputs: how many (F10.4).
func (g *Graph) Inputs() int {
	if g == nil {
		return 0
	}
	return g.made - len(g.gates)
}

// Node: what a node is: 0 false, 1 an input, with its number, 2 a gate (F10.4).
func (g *Graph) Node(n int) (int, api.Gate, api.Errno) {
	if g == nil {
		return 0, api.Gate{}, api.ErrNil
	}
	if n < 0 || n > g.made {
		return 0, api.Gate{}, api.ErrNode
	}
	kind, gate := g.node(n)
	return kind, gate, api.OK
}

// node is Node of one that is there.
func (g *Graph) node(n int) (int, api.Gate) {
	if n == 0 {
		return isFalse, api.Gate{}
	}
	place := n - 1
	if place/64 >= len(g.blocks) {
		return isInput, api.Gate{A: uint32(place - len(g.gates))}
	}
	b, bit := g.blocks[place/64], uint64(1)<<(place%64)
	gates := b.ahead + bits.OnesCount64(b.gates&(bit-1))
	if b.gates&bit == 0 {
		return isInput, api.Gate{A: uint32(place - gates)}
	}
	return isGate, g.gates[gates]
}

func (g *Graph) full() bool { return g.made >= api.MaxNodes-1 }

// add: the literal of a new node, for which there is room: an input, unless it is marked as a gate.
func (g *Graph) add() uint32 {
	g.made++
	return uint32(2 * g.made)
}

func (g *Graph) addGate(gate api.Gate) uint32 {
	place := g.made
	g.blocks = slices.Grow(g.blocks, max(0, place/64+1-len(g.blocks)))
	for len(g.blocks) <= place/64 {
		g.blocks = append(g.blocks, block{ahead: len(g.gates)})
	}
	g.blocks[place/64].gates |= 1 << (place % 64)
	g.gates = append(g.gates, gate)
	if g.found == nil {
		// Not in New: other layers are handed graphs, and the zero one must not make them panic.
		g.found = map[api.Gate]uint32{}
	}
	l := g.add()
	g.found[gate] = l
	return l
}

// dropGates takes back the gates beyond so many nodes; no input stands there.
func (g *Graph) dropGates(made int) {
	for g.made > made {
		last := len(g.gates) - 1
		delete(g.found, g.gates[last])
		g.gates = g.gates[:last]
		g.made--
		g.blocks[g.made/64].gates &^= 1 << (g.made % 64)
	}
	// A block beyond the nodes would count gates that are gone.
	g.blocks = g.blocks[:min(len(g.blocks), (made+63)/64)]
}
