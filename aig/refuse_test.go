package aig

import (
	"math"
	"testing"

	"cadence/api"
)

func TestNilGraph(t *testing.T) {
	var g *Graph
	same(t, "Nodes, Inputs", []int{g.Nodes(), g.Inputs()}, []int{0, 0})
	bad := []uint32{math.MaxUint32}
	ls := map[string]func() (uint32, api.Errno){
		"Input": g.Input,
		"And":   func() (uint32, api.Errno) { return g.And(2, 99) },
		"Or":    func() (uint32, api.Errno) { return g.Or(0, 1) },
		"Xor":   func() (uint32, api.Errno) { return g.Xor(99, 1) },
		"Mux":   func() (uint32, api.Errno) { return g.Mux(1, 1, 1) },
		"All":   func() (uint32, api.Errno) { return g.All(nil) },
		"All 1": func() (uint32, api.Errno) { return g.All(bad) },
	}
	for what, call := range ls {
		l, e := call()
		same(t, what, []int{int(l), int(e)}, []int{0, int(api.ErrNil)})
	}
	for _, roots := range [][]uint32{nil, {0}, bad} {
		cone, e1 := g.Cone(roots)
		depth, e2 := g.Depth(roots)
		values, e3 := g.Eval([]bool{true}, roots)
		words, e4 := g.Sim(nil, roots)
		text, e5 := g.Print(roots)
		if cone != nil || depth != 0 || values != nil || words != nil || text != "" {
			t.Error(cone, depth, values, words, text)
		}
		for i, e := range []api.Errno{e1, e2, e3, e4, e5} {
			same(t, "error", []int{i, int(e)}, []int{i, int(api.ErrNil)})
		}
	}
	for _, n := range []int{-1, 0, 1} {
		kind, gate, e := g.Node(n)
		same(t, "Node", []any{kind, gate, int(e)}, []any{0, api.Gate{}, int(api.ErrNil)})
	}
}

func TestNilGraphsOfLay(t *testing.T) {
	g := crossed(t)
	there := look(t, g)
	for _, x := range [][2]*Graph{{nil, g}, {g, nil}, {nil, nil}} {
		for _, in := range [][]uint32{nil, {2, 4, 12}, {99, 99, 99}} {
			for _, roots := range [][]uint32{nil, {10}, {99}} {
				laid, e := x[0].Lay(x[1], in, roots)
				if laid != nil || e != api.ErrNil {
					t.Errorf("Lay(%v %v): %v %d", in, roots, laid, e)
				}
			}
		}
	}
	same(t, "nodes", look(t, g), there)
}

// TestLiteralsThatMayNotBe: at each place of each call; just beyond the last node, and the greatest numbers.
func TestLiteralsThatMayNotBe(t *testing.T) {
	g := crossed(t)
	there := look(t, g)
	end := uint32(2 * g.Nodes())
	for _, bad := range []uint32{end, end + 1, end + 2, 1 << 31, 1<<31 + 2, math.MaxUint32 - 1, math.MaxUint32} {
		for i, call := range []func() (uint32, api.Errno){
			func() (uint32, api.Errno) { return g.And(bad, 2) },
			func() (uint32, api.Errno) { return g.And(5, bad) },
			func() (uint32, api.Errno) { return g.And(0, bad) },
			func() (uint32, api.Errno) { return g.And(bad, 1) },
			func() (uint32, api.Errno) { return g.And(bad, bad) },
			func() (uint32, api.Errno) { return g.Or(bad, 2) },
			func() (uint32, api.Errno) { return g.Or(1, bad) },
			func() (uint32, api.Errno) { return g.Xor(bad, 5) },
			func() (uint32, api.Errno) { return g.Xor(5, bad) },
			func() (uint32, api.Errno) { return g.Mux(bad, 3, 5) },
			func() (uint32, api.Errno) { return g.Mux(bad, 4, 4) },
			func() (uint32, api.Errno) { return g.Mux(3, bad, 5) },
			func() (uint32, api.Errno) { return g.Mux(3, 5, bad) },
			func() (uint32, api.Errno) { return g.Mux(3, bad, bad) },
			func() (uint32, api.Errno) { return g.All([]uint32{bad}) },
			func() (uint32, api.Errno) { return g.All([]uint32{3, 5, bad}) },
			func() (uint32, api.Errno) { return g.All([]uint32{0, bad, 3, 5}) },
			func() (uint32, api.Errno) { return g.All([]uint32{5, 13, 3, bad, bad + 1}) },
		} {
			l, e := call()
			same(t, "call", []int{i, int(l), int(e)}, []int{i, 0, int(api.ErrNode)})
		}
		rootsThatMayNotBe(t, g, bad)
	}
	same(t, "nodes", look(t, g), there)
	same(t, "the next gate", must(t)(g.And(5, 3)), end)
}

func rootsThatMayNotBe(t *testing.T, g *Graph, bad uint32) {
	t.Helper()
	for _, roots := range [][]uint32{{bad}, {10, bad}, {bad, 10}, {2, bad, bad}} {
		cone, e1 := g.Cone(roots)
		depth, e2 := g.Depth(roots)
		values, e3 := g.Eval([]bool{true, true, true}, roots)
		words, e4 := g.Sim([]uint64{1, 2, 3}, roots)
		text, e5 := g.Print(roots)
		laid, e6 := graphOf(t, 3).Lay(g, []uint32{2, 4, 6}, roots)
		if cone != nil || depth != 0 || values != nil || words != nil || text != "" || laid != nil {
			t.Error(cone, depth, values, words, text, laid)
		}
		for i, e := range []api.Errno{e1, e2, e3, e4, e5, e6} {
			same(t, "error", []int{i, int(e)}, []int{i, int(api.ErrNode)})
		}
	}
}

// TestCountsOfValues: too few and too many, and which error comes first.
func TestCountsOfValues(t *testing.T) {
	g := crossed(t)
	there := look(t, g)
	for _, n := range []int{0, 1, 2, 4, 100} {
		for _, x := range []struct {
			roots []uint32
			e     api.Errno
		}{{nil, api.ErrArg}, {[]uint32{10}, api.ErrArg}, {[]uint32{10, 99}, api.ErrNode}} {
			values, e := g.Eval(make([]bool, n), x.roots)
			same(t, "Eval", []any{len(values), int(e)}, []any{0, int(x.e)})
			words, e := g.Sim(make([]uint64, n), x.roots)
			same(t, "Sim", []any{len(words), int(e)}, []any{0, int(x.e)})
			laid, e := g.Lay(g, make([]uint32, n), x.roots)
			same(t, "Lay", []any{len(laid), int(e)}, []any{0, int(x.e)})
		}
	}
	same(t, "nodes", look(t, g), there)
	_, e := New().Eval([]bool{false}, nil)
	same(t, "Eval of no input", int(e), int(api.ErrArg))
	_, e = New().Sim([]uint64{0}, nil)
	same(t, "Sim of no input", int(e), int(api.ErrArg))
}

// TestLayRefuses: the literals of g are looked at last, and nothing is made.
func TestLayRefuses(t *testing.T) {
	h := crossed(t)
	g := graphOf(t, 3)
	for _, x := range []struct {
		in, roots []uint32
		e         api.Errno
	}{
		{[]uint32{2, 4, 8}, []uint32{10}, api.ErrNode}, // 8 is of h alone
		{[]uint32{8, 4, 2}, []uint32{10}, api.ErrNode},
		{[]uint32{2, 4, 9}, []uint32{10}, api.ErrNode},
		{[]uint32{2, 4, 9}, nil, api.ErrNode},
		{[]uint32{2, 4, math.MaxUint32}, []uint32{6}, api.ErrNode},
		{[]uint32{2, 99}, []uint32{10}, api.ErrArg},
		{[]uint32{2, 99, 2, 2}, []uint32{10}, api.ErrArg},
		{nil, []uint32{10}, api.ErrArg},
		{[]uint32{2, 4}, []uint32{99}, api.ErrNode},
		{[]uint32{2, 4, 6}, []uint32{14}, api.ErrNode},
		{[]uint32{2, 4, 6}, []uint32{10, 14}, api.ErrNode},
	} {
		laid, e := g.Lay(h, x.in, x.roots)
		if laid != nil || e != x.e {
			t.Errorf("Lay(%v %v): %v, %d, not %d", x.in, x.roots, laid, e, x.e)
		}
		same(t, "nodes", look(t, g), three)
	}
}

// TestZeroGraph: it is no promise, but no layer that is handed one may panic.
func TestZeroGraph(t *testing.T) {
	var g Graph
	same(t, "nodes", look(t, &g), "0")
	same(t, "Inputs", []uint32{must(t)(g.Input()), must(t)(g.Input())}, []uint32{2, 4})
	same(t, "And", must(t)(g.And(2, 4)), 6)
}
