package tseitin

import (
	"fmt"
	"slices"
	"testing"

	"cadence/aig"
	"cadence/api"
)

// Written by hand: mixed has the inputs 1, 2, 3, 4 and 10, the gates 5 to 9.
func TestLiftByHand(t *testing.T) {
	g := mixed(t)
	for _, x := range []struct {
		cone []int
		m    []int8
		want []int // the inputs that are true
	}{
		{nil, nil, nil},
		{nil, []int8{1, 1, 1}, nil},
		{[]int{}, []int8{1}, nil},
		{[]int{1, 2, 3, 4, 10}, []int8{1, 1, 1, 1, 1}, []int{0, 1, 2, 3, 4}},
		{[]int{1, 2, 3, 4, 10}, []int8{-1, -1, -1, -1, -1}, nil},
		{[]int{1, 2, 3, 4, 10}, []int8{1, -1, 1, -1, 1}, []int{0, 2, 4}},
		{[]int{10, 4, 3, 2, 1}, []int8{1, 1, -1, -1, 1}, []int{0, 3, 4}},
		{[]int{3}, []int8{1}, []int{2}},
		{[]int{10}, []int8{1, -1}, []int{4}},
		{[]int{1, 2, 10}, []int8{1, 1}, []int{0, 1}},  // an assignment that is shorter
		{[]int{1, 2, 10}, nil, nil},                   //
		{[]int{2}, []int8{-1, 1, 1, 1}, nil},          // and one that is longer
		{[]int{5, 6, 2, 9}, []int8{1, 1, -1, 1}, nil}, // gates say nothing
		{[]int{5, 6, 2, 9}, []int8{-1, -1, 1, -1}, []int{1}},
		{[]int{5, 7}, []int8{1, 1}, nil},
		{[]int{1, 2, 3, 4}, []int8{2, 0, 127, -128}, nil}, // other values are none
		{[]int{1, 2, 3, 4}, []int8{3, 1, -3, 1}, []int{1, 3}},
		{[]int{1, 1}, []int8{1, -1}, []int{0}}, // where it stands first
		{[]int{1, 1}, []int8{-1, 1}, nil},
		{[]int{1, 1}, []int8{0, 1}, nil},
		{[]int{2, 1, 2, 1, 1}, []int8{-1, 1, 1, -1, -1}, []int{0}},
		{[]int{5, 1, 5, 1}, []int8{1, -1, 1, 1}, nil},
		{[]int{0}, []int8{1}, nil}, // node 0 is a node, and no input
		{[]int{0, 3, 0}, []int8{1, 1, 1}, []int{2}},
		{[]int{0, 0, 1}, []int8{1, 1, -1}, nil},
	} {
		want := make([]bool, 5)
		for _, i := range x.want {
			want[i] = true
		}
		is(t, fmt.Sprint("Lift", x.cone, x.m), must[[]bool](t)(Lift(g, x.cone, x.m)), want)
	}
}

// Any list of nodes, any assignment, as the chapter's words say.
func TestLiftAgainstThePlainReading(t *testing.T) {
	p := picker(5)
	for range 2000 {
		g := grown(t, &p, 1+p.below(4), p.below(12))
		cone := []int{}
		for range p.below(2 * g.Nodes()) {
			cone = append(cone, p.below(g.Nodes()))
		}
		m := []int8{}
		for range p.below(2 + len(cone)*2) {
			m = append(m, []int8{1, 1, -1, 0, 2, -2}[p.below(6)])
		}
		want := []bool{}
		for n := range g.Nodes() {
			if kind, _, _ := g.Node(n); kind == 1 {
				i := slices.Index(cone, n)
				want = append(want, i >= 0 && i < len(m) && m[i] == 1)
			}
		}
		is(t, fmt.Sprint("Lift", cone, m), must[[]bool](t)(Lift(g, cone, m)), want)
	}
}

func TestFillByHand(t *testing.T) {
	g := mixed(t)
	for _, x := range []struct {
		roots []uint32
		in    string // 1 for a true one
		want  string
	}{
		{nil, "00000", "[]"}, {[]uint32{0, 1}, "11111", "[]"},
		{[]uint32{2}, "10000", "[1]"}, {[]uint32{3}, "10000", "[1]"}, {[]uint32{3}, "01111", "[-1]"},
		{[]uint32{21, 8}, "00010", "[-1 1]"}, {[]uint32{21, 8, 20}, "00001", "[1 -1]"},
		{[]uint32{10}, "11000", "[1 1 1]"}, {[]uint32{11}, "11000", "[1 1 1]"}, {[]uint32{4, 10}, "10111", "[-1 1 -1]"},
		{[]uint32{12}, "01100", "[-1 1 -1 1 1]"}, {[]uint32{13}, "11100", "[1 1 1 1 -1]"},
		// The cone is 2 1 5 3 6 7 8 9.
		{[]uint32{18}, "11000", "[1 1 1 -1 -1 1 1 -1]"}, {[]uint32{18}, "01100", "[1 -1 -1 1 1 -1 -1 1]"}, {[]uint32{19}, "00000", "[-1 -1 -1 -1 -1 -1 -1 1]"},
	} {
		in := []bool{}
		for _, c := range x.in {
			in = append(in, c == '1')
		}
		is(t, fmt.Sprint("Fill", x.roots, x.in), must[[]int8](t)(Fill(g, x.roots, in)), x.want)
	}
	is(t, "no inputs", len(must[[]int8](t)(Fill(aig.New(), []uint32{0, 1}, nil))), 0)
	is(t, "no inputs", len(must[[]int8](t)(Fill(aig.New(), nil, []bool{}))), 0)
}

// Each node's value is what Eval says of it.
func TestFillAgainstEval(t *testing.T) {
	p := picker(6)
	for round := range 300 {
		g := grown(t, &p, 1+p.below(6), round%100)
		roots := literals(&p, g, p.below(5))
		in := make([]bool, g.Inputs())
		for i := range in {
			in[i] = p.below(2) == 1
		}
		m, e := Fill(g, roots, in)
		cone := must[[]int](t)(g.Cone(roots))
		is(t, "Fill", []int{len(m), int(e)}, []int{len(cone), int(api.OK)})
		for i, n := range cone {
			value := must[[]bool](t)(g.Eval(in, []uint32{uint32(2 * n)}))[0]
			is(t, fmt.Sprint("node ", n), m[i], map[bool]int8{true: 1, false: -1}[value])
		}
	}
}
