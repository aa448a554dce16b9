package tseitin

import (
	"math"
	"testing"

	"cadence/aig"
	"cadence/api"
)

// refused: Encode, Polar and Fill answer that error, and nothing beside it.
func refused(t *testing.T, g *aig.Graph, roots []uint32, in []bool, want api.Errno) {
	t.Helper()
	for name, f := range both() {
		formula, cone, e := f(g, roots)
		if e != want || formula.Vars != 0 || formula.Clauses != nil || cone != nil {
			t.Fatalf("%s: %d variables, %d clauses, a cone of %d, %d, not %d", name, formula.Vars, len(formula.Clauses), len(cone), e, want)
		}
	}
	refusedFill(t, g, roots, in, want)
}

func refusedFill(t *testing.T, g *aig.Graph, roots []uint32, in []bool, want api.Errno) {
	t.Helper()
	if m, e := Fill(g, roots, in); e != want || m != nil {
		t.Fatalf("Fill: %d values, %d, not %d", len(m), e, want)
	}
}

func refusedLift(t *testing.T, g *aig.Graph, cone []int, m []int8, want api.Errno) {
	t.Helper()
	if in, e := Lift(g, cone, m); e != want || in != nil {
		t.Fatalf("Lift(%v): %v %d, not %d", cone, in, e, want)
	}
}

// No graph, alone and beside other errors.
func TestNilGraph(t *testing.T) {
	for _, roots := range [][]uint32{nil, {}, {0}, {1}, {2}, {math.MaxUint32}, {1, 99}} {
		for _, in := range [][]bool{nil, {}, {true}, {false, true}} {
			refused(t, nil, roots, in, api.ErrNil)
		}
	}
	for _, cone := range [][]int{nil, {}, {0}, {1}, {-1}, {3, math.MaxInt}} {
		for _, m := range [][]int8{nil, {}, {1}, {1, -1, 5}} {
			refusedLift(t, nil, cone, m, api.ErrNil)
		}
	}
}

// A root that is none: alone, first, last, among others; just beyond the last node, and the greatest.
func TestRootsThatAreNone(t *testing.T) {
	g := example(t)
	there := look(t, g)
	end := uint32(2 * g.Nodes())
	for _, bad := range []uint32{end, end + 1, end + 2, 99, 1 << 31, math.MaxUint32 - 1, math.MaxUint32} {
		for _, roots := range [][]uint32{{bad}, {bad, 8}, {8, bad}, {0, bad, 1}, {8, 2, bad, 7}, {bad, bad}} {
			for _, in := range [][]bool{nil, {true}, {true, false}, {true, false, true}} {
				refused(t, g, roots, in, api.ErrNode)
			}
		}
	}
	refused(t, aig.New(), []uint32{2}, nil, api.ErrNode)
	refused(t, aig.New(), []uint32{3}, []bool{true}, api.ErrNode)
	is(t, "the graph", look(t, g), there)
	f, _ := told(t, Encode, g, end-2, end-1)
	is(t, "the last node's", f.Clauses[len(f.Clauses)-2:], "[[4] [-4]]")
}

// Too few and too many values.
func TestCountsOfValues(t *testing.T) {
	g := example(t)
	for _, n := range []int{0, 1, 3, 100} {
		for _, roots := range [][]uint32{nil, {0}, {1}, {2}, {8}, {8, 9}} {
			refusedFill(t, g, roots, make([]bool, n), api.ErrArg)
		}
	}
	refusedFill(t, g, nil, nil, api.ErrArg)
	refusedFill(t, aig.New(), nil, []bool{false}, api.ErrArg)
}

// A cone with something that is no node, wherever it stands.
func TestNoNodes(t *testing.T) {
	g := example(t)
	for _, bad := range []int{-1, -2, math.MinInt, 5, 6, 1 << 30, 1 << 32, 1<<32 + 1, math.MaxInt} {
		for _, cone := range [][]int{{bad}, {bad, 1, 2}, {1, 2, bad}, {1, bad, 2}, {1, bad, bad}, {0, bad}} {
			for _, m := range [][]int8{nil, {1}, {1, 1, 1}} {
				refusedLift(t, g, cone, m, api.ErrNode)
			}
		}
	}
	refusedLift(t, aig.New(), []int{1}, nil, api.ErrNode)
	is(t, "the last node is one", must[[]bool](t)(Lift(g, []int{4, 2}, []int8{1, 1})), "[false true]")
}
