package aig

import (
	"fmt"
	"testing"

	"cadence/api"
)

// filled: a graph of so many nodes: five inputs, the gate 12 of 2 and 4, then inputs.
func filled(t *testing.T, nodes int) *Graph {
	t.Helper()
	g := graphOf(t, 5)
	same(t, "And", must(t)(g.And(2, 4)), 12)
	for g.Nodes() < nodes {
		if _, e := g.Input(); e != api.OK {
			t.Fatalf("Input: %d of %d nodes", e, g.Nodes())
		}
	}
	return g
}

// noRoom: each of the calls is refused, and nothing is made.
func noRoom(t *testing.T, g *Graph, calls ...func() (uint32, api.Errno)) {
	t.Helper()
	nodes, inputs := g.Nodes(), g.Inputs()
	for i, call := range calls {
		l, e := call()
		same(t, "no room", []int{i, int(l), int(e), g.Nodes(), g.Inputs()}, []int{i, 0, int(api.ErrSize), nodes, inputs})
	}
}

// laying: Lay of one root, as a call of one literal.
func laying(t *testing.T, g, h *Graph, root uint32, in ...uint32) func() (uint32, api.Errno) {
	return func() (uint32, api.Errno) {
		laid, e := g.Lay(h, in, []uint32{root})
		if e != api.OK {
			same(t, "nothing is laid", len(laid), 0)
			return 0, e
		}
		return laid[0], e
	}
}

// TestFull goes up to the last node of a graph.
func TestFull(t *testing.T) {
	const last = api.MaxNodes - 1
	g := filled(t, api.MaxNodes-2)
	h := graphOf(t, 3)
	both := must(t)(h.And(2, 4))
	turned := must(t)(h.And(Not(both), 6))
	xor := must(t)(h.Xor(2, 4))

	twoLeft := []func() (uint32, api.Errno){
		func() (uint32, api.Errno) { return g.Xor(6, 8) },
		func() (uint32, api.Errno) { return g.Mux(2, 6, 8) },
		func() (uint32, api.Errno) { return g.All([]uint32{6, 8, 10, 2}) },
		func() (uint32, api.Errno) { return g.All([]uint32{6, 8, 10, 2, 0}) },
		laying(t, g, h, xor, 6, 8, 10),
	}
	noRoom(t, g, twoLeft...)
	same(t, "q of the Xor", must(t)(g.And(7, 9)), 2*(last-1))
	same(t, "Nodes", g.Nodes(), api.MaxNodes-1)

	oneLeft := []func() (uint32, api.Errno){
		func() (uint32, api.Errno) { return g.Xor(2, 6) },
		func() (uint32, api.Errno) { return g.Mux(2, 6, 1) },
		func() (uint32, api.Errno) { return g.All([]uint32{6, 8, 10}) },
		func() (uint32, api.Errno) { return g.All([]uint32{6, 8, 10, 11}) },
		laying(t, g, h, turned, 6, 8, 10),
	}
	noRoom(t, g, twoLeft...)
	noRoom(t, g, oneLeft...)
	same(t, "Nodes", g.Nodes(), api.MaxNodes-1)
	kind, _, _ := g.Node(last)
	same(t, "nothing is left behind", kind, 0)
	same(t, "Or that has room", must(t)(g.Or(6, 8)), Not(2*(last-1)))
	same(t, "the last one", must(t)(laying(t, g, h, both, 6, 8, 10)()), 2*last)
	same(t, "Nodes, Inputs", []int{g.Nodes(), g.Inputs()}, []int{api.MaxNodes, api.MaxNodes - 4})

	noRoom(t, g, g.Input)
	noRoom(t, g, twoLeft...)
	noRoom(t, g, oneLeft...)
	noRoom(t, g,
		func() (uint32, api.Errno) { return g.And(4, 2) },
		func() (uint32, api.Errno) { return g.And(2*last, 2) },
		func() (uint32, api.Errno) { return g.Or(2, 4) },
		func() (uint32, api.Errno) { return g.Mux(2, 4, 6) },
		func() (uint32, api.Errno) { return g.Xor(2, 4) },
		laying(t, g, h, both, 4, 2, 6),
	)
	thereInAFullGraph(t, g, h, both)
	errorsOfAFullGraph(t, g, h, both)
	lastOfAFullGraph(t, g)
}

// thereInAFullGraph: what needs no new gate is answered.
func thereInAFullGraph(t *testing.T, g, h *Graph, both uint32) {
	t.Helper()
	for i, x := range []struct {
		call func() (uint32, api.Errno)
		want uint32
	}{
		{func() (uint32, api.Errno) { return g.And(2, 4) }, 12},
		{func() (uint32, api.Errno) { return g.And(0, 8) }, 0},
		{func() (uint32, api.Errno) { return g.And(8, 1) }, 8},
		{func() (uint32, api.Errno) { return g.Or(3, 5) }, 13},
		{func() (uint32, api.Errno) { return g.Xor(8, 1) }, 9},
		{func() (uint32, api.Errno) { return g.Mux(6, 8, 8) }, 8},
		{func() (uint32, api.Errno) { return g.Mux(2, 4, 0) }, 12},
		{func() (uint32, api.Errno) { return g.All(nil) }, 1},
		{func() (uint32, api.Errno) { return g.All([]uint32{2, 4, 1}) }, 12},
		{laying(t, g, h, both, 2, 4, 6), 12},
	} {
		l, e := x.call()
		same(t, "there", []any{i, l, int(e), g.Nodes()}, []any{i, x.want, 0, api.MaxNodes})
	}
}

// errorsOfAFullGraph: ErrSize is the last one.
func errorsOfAFullGraph(t *testing.T, g, h *Graph, both uint32) {
	t.Helper()
	const beyond = 2 * api.MaxNodes
	for i, x := range []struct {
		call func() (uint32, api.Errno)
		want api.Errno
	}{
		{func() (uint32, api.Errno) { return g.And(4, beyond) }, api.ErrNode},
		{func() (uint32, api.Errno) { return g.Or(beyond+1, 4) }, api.ErrNode},
		{func() (uint32, api.Errno) { return g.Xor(4, beyond) }, api.ErrNode},
		{func() (uint32, api.Errno) { return g.Mux(4, 6, beyond) }, api.ErrNode},
		{func() (uint32, api.Errno) { return g.All([]uint32{4, 2, beyond}) }, api.ErrNode},
		{laying(t, g, h, both, 4, 2), api.ErrArg},
		{laying(t, g, h, both, 4, 2, beyond), api.ErrNode},
		{laying(t, g, h, 99, 4, 2, 6), api.ErrNode},
	} {
		l, e := x.call()
		same(t, "error", []int{i, int(l), int(e), g.Nodes()}, []int{i, 0, int(x.want), api.MaxNodes})
	}
}

// lastOfAFullGraph: its greatest node and literal.
func lastOfAFullGraph(t *testing.T, g *Graph) {
	t.Helper()
	const last = api.MaxNodes - 1
	kind, gate, e := g.Node(last)
	same(t, "the last node", []any{kind, gate, int(e)}, []any{2, api.Gate{A: 6, B: 8}, 0})
	kind, gate, e = g.Node(last - 2)
	same(t, "the last input", []any{kind, gate, int(e)}, []any{1, api.Gate{A: last - 4}, 0})
	_, _, e = g.Node(api.MaxNodes)
	same(t, "none", int(e), int(api.ErrNode))
	roots := []uint32{2*last + 1, 12, 2 * (last - 2)}
	cone, _ := g.Cone(roots)
	depth, _ := g.Depth(roots)
	same(t, "Cone, Depth", []any{cone, depth}, []any{[]int{3, 4, last, 1, 2, 6, last - 2}, 1})
}

// TestFullBehindARefusal: where many gates were taken back inputs and gates stand again, and an input may be the last node.
func TestFullBehindARefusal(t *testing.T) {
	const room = 300
	g := filled(t, api.MaxNodes-room)
	h := graphOf(t, 3)
	chain := uint32(2)
	for i := range room + 1 {
		chain = must(t)(h.And(Not(chain), uint32(4+i%2*2)))
	}
	noRoom(t, g, laying(t, g, h, chain, 6, 8, 10))
	want := []string{}
	for i := range room {
		n, inputs := g.Nodes(), g.Inputs()
		a, b := uint32(100+2*i), uint32(9)
		if i%7 == 3 {
			same(t, "And", must(t)(g.And(a, b)), 2*n)
			want = append(want, fmt.Sprint(n, 2, api.Gate{A: a, B: b}))
		} else {
			same(t, "Input", must(t)(g.Input()), 2*n)
			want = append(want, fmt.Sprint(n, 1, api.Gate{A: uint32(inputs)}))
		}
	}
	for i := range room {
		n := api.MaxNodes - room + i
		kind, gate, e := g.Node(n)
		same(t, "Node", []any{fmt.Sprint(n, kind, gate), int(e)}, []any{want[i], 0})
	}
	same(t, "Nodes", g.Nodes(), api.MaxNodes)
	noRoom(t, g, g.Input)
}
