package aig

import (
	"math"
	"testing"

	"cadence/api"
)

func TestNew(t *testing.T) {
	g := New()
	same(t, "nodes", look(t, g), "0")
	same(t, "Nodes, Inputs", []int{g.Nodes(), g.Inputs()}, []int{1, 0})
	if g == New() {
		t.Error("two graphs are one")
	}
}

func TestTwoGraphsShareNothing(t *testing.T) {
	g, h := graphOf(t, 2), graphOf(t, 2)
	must(t)(g.And(2, 4))
	same(t, "the other one", look(t, h), "0 i0 i1")
	same(t, "And there", must(t)(h.And(4, 2)), 6)
	same(t, "the first", look(t, g), "0 i0 i1 2*4")
}

func TestNot(t *testing.T) {
	for _, x := range [][2]uint32{{0, 1}, {2, 3}, {98, 99}, {math.MaxUint32 - 1, math.MaxUint32}, {1 << 31, 1<<31 + 1}} {
		same(t, "Not", []uint32{Not(x[0]), Not(x[1])}, []uint32{x[1], x[0]})
	}
}

func TestInput(t *testing.T) {
	g := New()
	same(t, "first", must(t)(g.Input()), 2)
	same(t, "second", must(t)(g.Input()), 4)
	must(t)(g.And(2, 4))
	same(t, "behind a gate", must(t)(g.Input()), 8)
	same(t, "nodes", look(t, g), "0 i0 i1 2*4 i2")
}

func TestAnd(t *testing.T) {
	g := graphOf(t, 3)
	for _, x := range []struct {
		a, b, want uint32
		nodes      int
	}{
		{0, 0, 0, 4}, {0, 1, 0, 4}, {1, 0, 0, 4}, {1, 1, 1, 4},
		{0, 4, 0, 4}, {4, 0, 0, 4}, {0, 5, 0, 4}, {5, 0, 0, 4},
		{1, 4, 4, 4}, {4, 1, 4, 4}, {1, 5, 5, 4}, {5, 1, 5, 4},
		{4, 4, 4, 4}, {5, 5, 5, 4}, {4, 5, 0, 4}, {5, 4, 0, 4},
		{2, 4, 8, 5}, {2, 4, 8, 5}, {4, 2, 10, 6}, {2, 4, 8, 6}, {4, 2, 10, 6},
		{2, 5, 12, 7}, {3, 4, 14, 8}, {3, 5, 16, 9}, {2, 4, 8, 9},
		{8, 8, 8, 9}, {8, 9, 0, 9}, {9, 9, 9, 9}, {9, 6, 18, 10}, {8, 6, 20, 11}, {9, 6, 18, 11},
		{8, 10, 22, 12}, {8, 2, 24, 13}, {9, 2, 26, 14},
	} {
		same(t, "And", []any{x.a, x.b, must(t)(g.And(x.a, x.b)), g.Nodes()}, []any{x.a, x.b, x.want, x.nodes})
	}
	same(t, "nodes", look(t, g), "0 i0 i1 i2 2*4 4*2 2*5 3*4 3*5 9*6 8*6 8*10 8*2 9*2")
}

// made: what is in the graph behind its first nodes.
func made(t *testing.T, g *Graph, ahead string) string {
	t.Helper()
	all := look(t, g)
	if all == ahead {
		return ""
	}
	same(t, "nodes that were there", all[:len(ahead)], ahead)
	return all[len(ahead)+1:]
}

const three = "0 i0 i1 i2" // the literals 2, 4, 6

func TestOr(t *testing.T) {
	for _, x := range []struct {
		a, b, want uint32
		made       string
	}{
		{2, 4, 9, "3*5"}, {4, 2, 9, "5*3"}, {3, 4, 9, "2*5"}, {2, 5, 9, "3*4"}, {3, 5, 9, "2*4"},
		{2, 1, 1, ""}, {1, 2, 1, ""}, {2, 0, 2, ""}, {0, 2, 2, ""}, {2, 2, 2, ""}, {2, 3, 1, ""}, {3, 3, 3, ""}, {0, 0, 0, ""}, {1, 1, 1, ""},
	} {
		g := graphOf(t, 3)
		l := must(t)(g.Or(x.a, x.b))
		same(t, "Or", []any{x.a, x.b, l, made(t, g, three)}, []any{x.a, x.b, x.want, x.made})
	}
}

func TestXor(t *testing.T) {
	for _, x := range []struct {
		a, b, want uint32
		made       string
	}{
		{2, 4, 12, "2*4 3*5 9*11"}, {4, 2, 12, "4*2 5*3 9*11"}, {3, 4, 12, "3*4 2*5 9*11"}, {2, 5, 12, "2*5 3*4 9*11"}, {3, 5, 12, "3*5 2*4 9*11"},
		{2, 0, 2, ""}, {0, 2, 2, ""}, {2, 1, 3, ""}, {1, 2, 3, ""}, {3, 1, 2, ""},
		{2, 2, 0, ""}, {3, 3, 0, ""}, {2, 3, 1, ""}, {3, 2, 1, ""}, {0, 0, 0, ""}, {1, 1, 0, ""}, {0, 1, 1, ""}, {1, 0, 1, ""},
	} {
		g := graphOf(t, 3)
		l := must(t)(g.Xor(x.a, x.b))
		same(t, "Xor", []any{x.a, x.b, l, made(t, g, three)}, []any{x.a, x.b, x.want, x.made})
	}
}

func TestMux(t *testing.T) {
	for _, x := range []struct {
		c, a, b, want uint32
		made          string
	}{
		{2, 4, 6, 13, "2*4 3*6 9*11"}, {3, 4, 6, 13, "3*4 2*6 9*11"}, {2, 6, 4, 13, "2*6 3*4 9*11"}, {2, 5, 7, 13, "2*5 3*7 9*11"}, {2, 4, 5, 13, "2*4 3*5 9*11"},
		{2, 4, 4, 4, ""}, {2, 5, 5, 5, ""}, {0, 4, 4, 4, ""}, {4, 4, 4, 4, ""}, {2, 0, 0, 0, ""}, {2, 1, 1, 1, ""},
		{1, 4, 6, 4, ""}, {0, 4, 6, 6, ""}, {2, 1, 0, 2, ""}, {2, 0, 1, 3, ""},
		{2, 4, 0, 8, "2*4"}, {2, 0, 4, 8, "3*4"}, {2, 1, 4, 11, "3*4 3*9"}, {2, 4, 1, 11, "2*4 9*2"},
		{2, 2, 4, 11, "3*4 3*9"}, {2, 4, 2, 8, "2*4"}, {2, 3, 4, 8, "3*4"},
	} {
		g := graphOf(t, 3)
		l := must(t)(g.Mux(x.c, x.a, x.b))
		same(t, "Mux", []any{x.c, x.a, x.b, l, made(t, g, three)}, []any{x.c, x.a, x.b, x.want, x.made})
	}
}

func TestAll(t *testing.T) {
	for _, x := range []struct {
		l    []uint32
		want uint32
		made string
	}{
		{nil, 1, ""}, {[]uint32{}, 1, ""}, {[]uint32{0}, 0, ""}, {[]uint32{1}, 1, ""}, {[]uint32{4}, 4, ""}, {[]uint32{5}, 5, ""},
		{[]uint32{2, 4}, 8, "2*4"}, {[]uint32{4, 2}, 8, "4*2"}, {[]uint32{2, 4, 6}, 10, "2*4 8*6"}, {[]uint32{7, 5, 2}, 10, "7*5 8*2"},
		{[]uint32{2, 4, 6, 4}, 12, "2*4 8*6 10*4"}, {[]uint32{1, 2, 1, 4, 1}, 8, "2*4"}, {[]uint32{2, 2, 4}, 8, "2*4"},
		{[]uint32{2, 3, 4}, 0, ""}, {[]uint32{2, 4, 0, 6}, 0, "2*4"}, {[]uint32{2, 4, 6, 7}, 12, "2*4 8*6 10*7"}, {[]uint32{0, 2, 4}, 0, ""},
	} {
		g := graphOf(t, 3)
		l := must(t)(g.All(x.l))
		same(t, "All", []any{x.l, l, made(t, g, three)}, []any{x.l, x.want, x.made})
	}
}

func TestGatesThatAreThereAreTaken(t *testing.T) {
	g := graphOf(t, 2)
	x := must(t)(g.Xor(2, 4))
	there := look(t, g)
	same(t, "Xor again", must(t)(g.Xor(2, 4)), x)
	same(t, "Or", must(t)(g.Or(2, 4)), 9)
	same(t, "All", must(t)(g.All([]uint32{2, 4})), 6)
	same(t, "And", must(t)(g.And(7, 9)), x)
	same(t, "nodes", look(t, g), there)
}

// TestExamples: the table of the chapter.
func TestExamples(t *testing.T) {
	g := graphOf(t, 2)
	for _, x := range [][3]uint32{{2, 4, 6}, {2, 4, 6}, {4, 2, 8}, {2, 3, 0}, {2, 2, 2}, {1, 4, 4}, {0, 4, 0}} {
		same(t, "And", must(t)(g.And(x[0], x[1])), x[2])
	}
	same(t, "Xor", must(t)(g.Xor(2, 4)), 12)
	same(t, "nodes", look(t, g), "0 i0 i1 2*4 4*2 3*5 7*11")
	same(t, "Mux, Or, All", []uint32{must(t)(g.Mux(2, 4, 4)), must(t)(g.Or(2, 1)), must(t)(g.All(nil))}, []int{4, 1, 1})
	for _, x := range []struct {
		roots []uint32
		want  []int
	}{{[]uint32{12}, []int{1, 2, 3, 5, 6}}, {[]uint32{8, 6}, []int{2, 1, 4, 3}}, {[]uint32{1}, nil}} {
		cone, e := g.Cone(x.roots)
		same(t, "Cone", []any{cone, int(e)}, []any{x.want, 0})
	}
	depth, _ := g.Depth([]uint32{12})
	values, _ := g.Eval([]bool{true, false}, []uint32{12, 13})
	words, _ := g.Sim([]uint64{3, 5}, []uint32{12})
	same(t, "Depth, Eval, Sim", []any{depth, values, words}, []any{2, []bool{true, false}, []int{6}})
	_, e := g.And(2, 99)
	same(t, "And(2, 99)", int(e), int(api.ErrNode))
	_, e = g.Eval([]bool{true}, []uint32{2})
	same(t, "Eval", int(e), int(api.ErrArg))
	_, _, e = g.Node(7)
	same(t, "Node(7)", int(e), int(api.ErrNode))
	text, _ := g.Print([]uint32{7})
	same(t, "Print", text, "aag 3 2 0 1 1\n2\n4\n7\n6 2 4\n")
	h, roots, line, e := Parse(text)
	same(t, "Parse", []any{look(t, h), roots, line, int(e)}, []any{"0 i0 i1 2*4", []int{7}, 0, 0})
	_, _, line, e = Parse("aag 1 1 0 0 0\n4\n")
	same(t, "Parse", []int{line, int(e)}, []int{2, int(api.ErrText)})
}

func TestMadePlainly(t *testing.T) {
	r := picker(1)
	for round := range 400 {
		g, p := grown(t, &r, r.below(4), round%150)
		same(t, "nodes", look(t, g), p.look())
		same(t, "Nodes, Inputs", []int{g.Nodes(), g.Inputs()}, []int{len(p.kinds), p.inputs()})
	}
}
