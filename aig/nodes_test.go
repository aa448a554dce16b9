package aig

import (
	"math"
	"testing"

	"cadence/api"
)

func TestNode(t *testing.T) {
	g := graphOf(t, 2)
	must(t)(g.And(5, 2))
	must(t)(g.Input())
	must(t)(g.And(6, 9))
	for _, x := range []struct {
		n, kind int
		gate    api.Gate
		e       api.Errno
	}{
		{0, 0, api.Gate{}, api.OK},
		{1, 1, api.Gate{A: 0}, api.OK},
		{2, 1, api.Gate{A: 1}, api.OK},
		{3, 2, api.Gate{A: 5, B: 2}, api.OK},
		{4, 1, api.Gate{A: 2}, api.OK},
		{5, 2, api.Gate{A: 6, B: 9}, api.OK},
		{6, 0, api.Gate{}, api.ErrNode},
		{-1, 0, api.Gate{}, api.ErrNode},
		{math.MaxInt, 0, api.Gate{}, api.ErrNode},
		{math.MinInt, 0, api.Gate{}, api.ErrNode},
		{1 << 32, 0, api.Gate{}, api.ErrNode},
		{1<<32 + 1, 0, api.Gate{}, api.ErrNode},
	} {
		kind, gate, e := g.Node(x.n)
		same(t, "Node", []any{x.n, kind, gate, int(e)}, []any{x.n, x.kind, x.gate, int(x.e)})
	}
	same(t, "Nodes, Inputs", []int{g.Nodes(), g.Inputs()}, []int{6, 3})
}

func TestNodeOfTheEmptyGraph(t *testing.T) {
	g := New()
	kind, gate, e := g.Node(0)
	same(t, "Node(0)", []any{kind, gate, int(e)}, []any{0, api.Gate{}, 0})
	_, _, e = g.Node(1)
	same(t, "Node(1)", int(e), int(api.ErrNode))
}

// TestManyNodes: inputs and gates in stretches of all lengths about 64, one behind the other.
func TestManyNodes(t *testing.T) {
	for _, stretch := range []int{1, 2, 3, 31, 32, 33, 62, 63, 64, 65, 127, 128, 129, 300} {
		g, p := graphOf(t, 2), newPlain(2)
		r := picker(stretch)
		for range 3 {
			for range stretch {
				same(t, "Input", must(t)(g.Input()), p.input())
			}
			for range stretch {
				a, b := p.literal(&r), p.literal(&r)
				same(t, "And", must(t)(g.And(a, b)), p.and(a, b))
			}
		}
		same(t, "nodes", look(t, g), p.look())
		same(t, "Inputs", g.Inputs(), p.inputs())
	}
}
