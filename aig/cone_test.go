package aig

import (
	"testing"

	"cadence/api"
)

// crossed: 6 is 2*4, 8 is 6*3, 10 is 9*7; 12 is an input behind them.
func crossed(t *testing.T) *Graph {
	g := graphOf(t, 2)
	same(t, "And", must(t)(g.And(2, 4)), 6)
	same(t, "And", must(t)(g.And(6, 3)), 8)
	same(t, "And", must(t)(g.And(9, 7)), 10)
	same(t, "Input", must(t)(g.Input()), 12)
	return g
}

func TestConeAndDepth(t *testing.T) {
	g := crossed(t)
	for _, x := range []struct {
		roots []uint32
		cone  []int
		depth int
	}{
		{nil, nil, 0}, {[]uint32{}, nil, 0}, {[]uint32{0}, nil, 0}, {[]uint32{1}, nil, 0}, {[]uint32{0, 1, 0}, nil, 0},
		{[]uint32{2}, []int{1}, 0}, {[]uint32{5}, []int{2}, 0}, {[]uint32{12, 4}, []int{6, 2}, 0}, {[]uint32{4, 5, 4}, []int{2}, 0},
		{[]uint32{6}, []int{1, 2, 3}, 1}, {[]uint32{7, 6}, []int{1, 2, 3}, 1}, {[]uint32{4, 6}, []int{2, 1, 3}, 1},
		{[]uint32{8}, []int{1, 2, 3, 4}, 2}, {[]uint32{10}, []int{1, 2, 3, 4, 5}, 3}, {[]uint32{11, 10, 11}, []int{1, 2, 3, 4, 5}, 3},
		{[]uint32{4, 10}, []int{2, 1, 3, 4, 5}, 3}, {[]uint32{10, 12, 0, 6}, []int{1, 2, 3, 4, 5, 6}, 3}, {[]uint32{13, 6, 1, 9}, []int{6, 1, 2, 3, 4}, 2},
		{[]uint32{8, 2}, []int{1, 2, 3, 4}, 2}, {[]uint32{2, 8}, []int{1, 2, 3, 4}, 2},
	} {
		cone, e := g.Cone(x.roots)
		same(t, "Cone", []any{x.roots, cone, int(e)}, []any{x.roots, x.cone, 0})
		depth, e := g.Depth(x.roots)
		same(t, "Depth", []any{x.roots, depth, int(e)}, []any{x.roots, x.depth, 0})
	}
}

// TestBothOperandsLeadToOneNode: it is met from A, and not again.
func TestBothOperandsLeadToOneNode(t *testing.T) {
	g := graphOf(t, 3)
	a := must(t)(g.And(4, 6))
	b := must(t)(g.And(a, 2))
	c := must(t)(g.And(2, a))
	d := must(t)(g.And(c, b))
	cone, _ := g.Cone([]uint32{d})
	same(t, "Cone", cone, []int{1, 2, 3, 4, 6, 5, 7})
}

// TestDeep: a chain of many gates, in which each hangs on the one ahead of it by A or by B.
func TestDeep(t *testing.T) {
	const deep = 1000000
	g := graphOf(t, 2)
	last := uint32(2)
	for i := range deep {
		if i%2 == 0 {
			last = must(t)(g.And(Not(last), 4))
		} else {
			last = must(t)(g.And(4, Not(last)))
		}
	}
	depth, e := g.Depth([]uint32{last})
	same(t, "Depth", []int{depth, int(e)}, []int{deep, 0})
	cone, _ := g.Cone([]uint32{last})
	same(t, "Cone's length and ends", []int{len(cone), cone[0], cone[1], cone[2], cone[3], cone[deep+1]}, []int{deep + 2, 2, 1, 3, 4, deep + 2}) // the last gate has 4 for its A
	values, _ := g.Eval([]bool{true, true}, []uint32{last, last - 2, last - 4})
	same(t, "Eval", values, []bool{true, false, true})
	h := graphOf(t, 2)
	laid, e := h.Lay(g, []uint32{2, 4}, []uint32{last})
	same(t, "Lay", []any{laid, int(e), h.Nodes()}, []any{[]uint32{last}, 0, g.Nodes()})
	text, _ := g.Print([]uint32{last})
	back, roots, line, e := Parse(text)
	same(t, "Parse", []any{back.Nodes(), roots, line, int(e)}, []any{g.Nodes(), []uint32{last}, 0, 0})
}

func TestConePlainly(t *testing.T) {
	r := picker(2)
	for round := range 300 {
		g, p := grown(t, &r, 1+r.below(4), round%120)
		for range 5 {
			roots := p.literals(&r, r.below(5))
			cone, e := g.Cone(roots)
			same(t, "Cone", []any{roots, cone, int(e)}, []any{roots, p.cone(roots), 0})
			depth, e := g.Depth(roots)
			same(t, "Depth", []any{roots, depth, int(e)}, []any{roots, p.depth(roots), 0})
		}
	}
}

// TestConeAcrossPages: roots whose nodes are far from each other.
func TestConeAcrossPages(t *testing.T) {
	g := graphOf(t, 5000)
	near := must(t)(g.And(2, 2*1024))
	far := must(t)(g.And(near, 2*4097))
	cone, e := g.Cone([]uint32{2 * 1023, far, 2 * 1025})
	same(t, "Cone", []any{cone, int(e)}, []any{[]int{1023, 1, 1024, 5001, 4097, 5002, 1025}, 0})
	depth, _ := g.Depth([]uint32{far, 2 * 3000})
	same(t, "Depth", depth, 2)
	in := make([]uint64, 5000)
	in[0], in[1023], in[4096] = 7, 6, 12
	words, _ := g.Sim(in, []uint32{far, near, 2 * 3000, Not(near)})
	same(t, "Sim", words, []uint64{4, 6, 0, ^uint64(6)})
}

func TestDepthTakesTheDeeperOperand(t *testing.T) {
	g := graphOf(t, 3)
	a := must(t)(g.And(2, 4))
	b := must(t)(g.And(a, 6))
	left := must(t)(g.And(b, 4))
	right := must(t)(g.And(4, b))
	for _, l := range []uint32{left, right, Not(left), Not(right)} {
		depth, e := g.Depth([]uint32{l})
		same(t, "Depth", []int{depth, int(e)}, []int{3, int(api.OK)})
	}
}
