package aig

import (
	"testing"

	"cadence/api"
)

func TestPrint(t *testing.T) {
	g := crossed(t) // 6: 2*4, 8: 6*3, 10: 9*7, 12: the third input
	for _, x := range []struct {
		roots []uint32
		want  string
	}{
		{nil, "aag 3 3 0 0 0\n2\n4\n6\n"},
		{[]uint32{}, "aag 3 3 0 0 0\n2\n4\n6\n"},
		{[]uint32{0, 1}, "aag 3 3 0 2 0\n2\n4\n6\n0\n1\n"},
		{[]uint32{12, 3, 12}, "aag 3 3 0 3 0\n2\n4\n6\n6\n3\n6\n"},
		{[]uint32{7}, "aag 4 3 0 1 1\n2\n4\n6\n9\n8 2 4\n"},
		{[]uint32{11}, "aag 6 3 0 1 3\n2\n4\n6\n13\n8 2 4\n10 8 3\n12 11 9\n"},
		{[]uint32{13, 11, 6}, "aag 6 3 0 3 3\n2\n4\n6\n7\n13\n8\n8 2 4\n10 8 3\n12 11 9\n"},
	} {
		text, e := g.Print(x.roots)
		same(t, "Print", []any{text, int(e)}, []any{x.want, int(api.OK)})
	}
}

func TestPrintOfTheEmptyGraph(t *testing.T) {
	text, e := New().Print(nil)
	same(t, "of no root", []any{text, int(e)}, []any{"aag 0 0 0 0 0\n", 0})
	text, e = New().Print([]uint32{1, 0})
	same(t, "of constants", []any{text, int(e)}, []any{"aag 0 0 0 2 0\n1\n0\n", 0})
}

// TestPrintLeavesOutOtherGates: gates that no root leads to; the order is the cone's, not that of the nodes.
func TestPrintLeavesOutOtherGates(t *testing.T) {
	g := graphOf(t, 3)
	a := must(t)(g.And(2, 4))
	must(t)(g.And(4, 2))
	b := must(t)(g.And(4, 6))
	c := must(t)(g.And(b, Not(a)))
	text, _ := g.Print([]uint32{c})
	same(t, "Print", text, "aag 6 3 0 1 3\n2\n4\n6\n12\n8 4 6\n10 2 4\n12 8 11\n")
}

func TestPrintPlainly(t *testing.T) {
	r := picker(8)
	for round := range 300 {
		g, p := grown(t, &r, r.below(5), round%100)
		roots := p.literals(&r, r.below(6))
		text, e := g.Print(roots)
		same(t, "Print", []any{text, int(e)}, []any{p.print(roots), 0})
	}
}

// TestParseOfPrint: P1006.
func TestParseOfPrint(t *testing.T) {
	r := picker(9)
	for round := range 300 {
		g, p := grown(t, &r, r.below(5), round%100)
		roots := p.literals(&r, r.below(6))
		text, _ := g.Print(roots)
		h, read, line, e := Parse(text)
		same(t, "Parse", []any{h.Inputs(), len(read), line, int(e)}, []any{g.Inputs(), len(roots), 0, 0})
		in := rows(&r, g.Inputs())
		want, _ := g.Sim(in, roots)
		got, _ := h.Sim(in, read)
		same(t, "values", got, want)
		again, e := h.Print(read)
		same(t, "Print", []any{again, int(e)}, []any{text, 0})
	}
}
