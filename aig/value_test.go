package aig

import (
	"testing"

	"cadence/api"
)

func TestEvalAndSim(t *testing.T) {
	g := crossed(t) // 6: a and b; 8: never; 10: not both of a and b; 12: the third input
	roots := []uint32{0, 1, 2, 3, 6, 7, 8, 10, 12, 13, 6}
	values, e := g.Eval([]bool{true, true, false}, roots)
	same(t, "Eval", []any{values, int(e)}, []any{[]bool{false, true, true, false, true, false, false, false, false, true, true}, 0})
	const all = ^uint64(0)
	words, e := g.Sim([]uint64{12, 10, 1 << 63}, roots)
	same(t, "Sim", []any{words, int(e)}, []any{[]uint64{0, all, 12, all - 12, 8, all - 8, 0, all - 8, 1 << 63, all >> 1, 8}, 0})
}

func TestValuesOfNothing(t *testing.T) {
	g := New()
	values, e := g.Eval(nil, []uint32{1, 0})
	same(t, "Eval", []any{values, int(e)}, []any{[]bool{true, false}, 0})
	words, e := g.Sim([]uint64{}, []uint32{1, 0})
	same(t, "Sim", []any{words, int(e)}, []any{[]uint64{^uint64(0), 0}, 0})
	g = graphOf(t, 2)
	values, e = g.Eval([]bool{true, true}, nil)
	same(t, "Eval of no root", []any{len(values), int(e)}, []any{0, 0})
	words, e = g.Sim([]uint64{1, 1}, nil)
	same(t, "Sim of no root", []any{len(words), int(e)}, []any{0, 0})
}

// TestEachMeansItsName: P1001, for all values of the operands, at all literals of a small graph.
func TestEachMeansItsName(t *testing.T) {
	g := crossed(t)
	old := uint32(2 * g.Nodes())
	for a := range old {
		for b := range old {
			and, or, xor := must(t)(g.And(a, b)), must(t)(g.Or(a, b)), must(t)(g.Xor(a, b))
			for c := range old {
				mux, all := must(t)(g.Mux(c, a, b)), must(t)(g.All([]uint32{c, a, b}))
				words, _ := g.Sim([]uint64{0xf0, 0xcc, 0xaa}, []uint32{a, b, c, and, or, xor, mux, all})
				x, y, z := words[0], words[1], words[2]
				same(t, "values", words[3:], []uint64{x & y, x | y, x ^ y, z&x | ^z&y, z & x & y})
			}
		}
	}
}

func TestValuesPlainly(t *testing.T) {
	r := picker(3)
	for round := range 300 {
		g, p := grown(t, &r, r.below(5), round%100)
		roots := p.literals(&r, r.below(6))
		in := bools(&r, p.inputs())
		values, e := g.Eval(in, roots)
		same(t, "Eval", []any{values, int(e)}, []any{p.values(in, roots), 0})
	}
}

// TestSimIsEvalRowByRow: P1004.
func TestSimIsEvalRowByRow(t *testing.T) {
	r := picker(4)
	for round := range 60 {
		g, p := grown(t, &r, 1+r.below(5), 20+round)
		roots := p.literals(&r, 1+r.below(6))
		in := rows(&r, p.inputs())
		words, e := g.Sim(in, roots)
		same(t, "Sim", int(e), int(api.OK))
		for k := range 64 {
			values, _ := g.Eval(row(in, k), roots)
			same(t, "row", []any{k, row(words, k)}, []any{k, values})
			same(t, "plainly", values, p.values(row(in, k), roots))
		}
	}
}
