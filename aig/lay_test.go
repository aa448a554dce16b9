package aig

import (
	"testing"

	"cadence/api"
)

func TestLay(t *testing.T) {
	h := crossed(t) // 6: 2*4, 8: 6*3, 10: 9*7, three inputs
	for _, x := range []struct {
		in, roots, want []uint32
		made            string
	}{
		{[]uint32{2, 4, 6}, []uint32{10}, []uint32{12}, "2*4 8*3 11*9"},
		{[]uint32{2, 4, 6}, []uint32{11, 12, 13, 0, 1, 6}, []uint32{13, 6, 7, 0, 1, 8}, "2*4 8*3 11*9"},
		{[]uint32{6, 6, 2}, []uint32{6, 12, 8, 10}, []uint32{6, 2, 0, 7}, ""},
		{[]uint32{5, 2, 1}, []uint32{6, 12, 13, 8}, []uint32{8, 1, 0, 10}, "5*2 8*4"},
		{[]uint32{0, 4, 6}, []uint32{6, 10, 11}, []uint32{0, 1, 0}, ""},
		{[]uint32{1, 4, 6}, []uint32{7, 10, 2}, []uint32{5, 5, 1}, ""},
		{[]uint32{2, 4, 6}, nil, nil, ""},
		{[]uint32{2, 4, 6}, []uint32{1, 0}, []uint32{1, 0}, ""},
		{[]uint32{2, 4, 6}, []uint32{2, 2, 5}, []uint32{2, 2, 5}, ""},
	} {
		g := graphOf(t, 3)
		before := look(t, h)
		laid, e := g.Lay(h, x.in, x.roots)
		same(t, "Lay", []any{x.in, x.roots, laid, int(e), made(t, g, three)}, []any{x.in, x.roots, x.want, 0, x.made})
		same(t, "the other graph", look(t, h), before)
	}
}

func TestLayIntoAGraphWithoutInputs(t *testing.T) {
	g := New()
	laid, e := g.Lay(crossed(t), []uint32{1, 1, 0}, []uint32{6, 10, 12})
	same(t, "Lay", []any{laid, int(e), look(t, g)}, []any{[]uint32{1, 0, 0}, 0, "0"})
	laid, e = g.Lay(New(), nil, []uint32{1, 0})
	same(t, "Lay of constants", []any{laid, int(e), look(t, g)}, []any{[]uint32{1, 0}, 0, "0"})
}

func TestLayTakesGatesThatAreThere(t *testing.T) {
	h := crossed(t)
	g := graphOf(t, 3)
	must(t)(g.And(2, 4))
	laid, e := g.Lay(h, []uint32{2, 4, 6}, []uint32{8})
	same(t, "Lay", []any{laid, int(e), look(t, g)}, []any{[]uint32{10}, 0, "0 i0 i1 i2 2*4 8*3"})
}

func TestLayIntoItself(t *testing.T) {
	g := crossed(t)
	there := look(t, g)
	laid, e := g.Lay(g, []uint32{2, 4, 12}, []uint32{10, 13})
	same(t, "Lay over its inputs", []any{laid, int(e), look(t, g)}, []any{[]uint32{10, 13}, 0, there})
	laid, e = g.Lay(g, []uint32{4, 2, 10}, []uint32{8, 12})
	same(t, "Lay over others", []any{laid, int(e), look(t, g)}, []any{[]uint32{16, 10}, 0, there + " 4*2 14*5"})
	laid, e = g.Lay(g, []uint32{12, 11, 0}, []uint32{16})
	same(t, "Lay again", []any{laid, int(e), look(t, g)}, []any{[]uint32{20}, 0, there + " 4*2 14*5 11*12 18*10"})
}

// TestLayKeepsValues: P1005, and what is made, plainly.
func TestLayKeepsValues(t *testing.T) {
	r := picker(5)
	for round := range 300 {
		h, hp := grown(t, &r, r.below(4), round%80)
		g, p := grown(t, &r, r.below(4), r.below(40))
		if round%5 == 0 {
			g, p = h, hp
		}
		in, roots := p.literals(&r, h.Inputs()), hp.literals(&r, r.below(6))
		laid, e := g.Lay(h, in, roots)
		same(t, "Lay", []any{laid, int(e)}, []any{p.lay(hp, in, roots), int(api.OK)})
		same(t, "nodes", look(t, g), p.look())
		words := rows(&r, g.Inputs())
		here, _ := g.Sim(words, laid)
		under, _ := g.Sim(words, in)
		there, _ := h.Sim(under, roots)
		same(t, "values", here, there)
	}
}

// TestLayIntoANewGraph: P1005: its Print is that of the roots.
func TestLayIntoANewGraph(t *testing.T) {
	r := picker(6)
	for round := range 200 {
		h, p := grown(t, &r, r.below(4), round)
		roots := p.literals(&r, r.below(6))
		g := New()
		var in []uint32
		for range h.Inputs() {
			in = append(in, must(t)(g.Input()))
		}
		laid, _ := g.Lay(h, in, roots)
		want, _ := h.Print(roots)
		got, e := g.Print(laid)
		same(t, "Print", []any{got, int(e)}, []any{want, 0})
	}
}

// TestConeHangsOnTheStructure: P1003: the same structure, with other gates among it, and its parts made in another order.
func TestConeHangsOnTheStructure(t *testing.T) {
	r := picker(7)
	for round := range 200 {
		h, p := grown(t, &r, 1+r.below(4), 10+round%100)
		roots := p.literals(&r, 1+r.below(4))
		g, in := New(), []uint32{}
		for range h.Inputs() {
			in = append(in, must(t)(g.Input()))
			must(t)(g.Xor(in[0], in[len(in)-1]))
		}
		for range 5 {
			part, _ := g.Lay(h, in, p.literals(&r, 1))
			must(t)(g.And(Not(part[0]), in[0]))
		}
		laid, _ := g.Lay(h, in, roots)
		want, _ := h.Print(roots)
		got, _ := g.Print(laid)
		same(t, "Print", got, want)
		there, _ := h.Cone(roots)
		here, _ := g.Cone(laid)
		same(t, "how many", len(here), len(there))
		names := map[int]int{}
		for i := range there {
			names[there[i]] = here[i]
		}
		for i := range there {
			isLike(t, h, g, names, there[i], here[i])
		}
	}
}

// isLike: the node n of h, with its parts named anew, is the node m of g.
func isLike(t *testing.T, h, g *Graph, names map[int]int, n, m int) {
	t.Helper()
	kind, gate, _ := h.Node(n)
	if kind == 2 {
		gate.A = uint32(2*names[int(gate.A/2)]) + gate.A%2
		gate.B = uint32(2*names[int(gate.B/2)]) + gate.B%2
	}
	got, other, _ := g.Node(m)
	same(t, "node", []any{got, other}, []any{kind, gate})
}
