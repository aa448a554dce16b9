package tseitin

import (
	"fmt"
	"testing"

	"cadence/aig"
	"cadence/api"
	"cadence/cnf"
)

// The examples of the chapter.
func TestExamples(t *testing.T) {
	g := example(t)
	f, cone := told(t, Encode, g, 8)
	is(t, "Encode", []any{cone, f}, "[[1 2 3 4] {4 [[-3 1] [-3 2] [3 -1 -2] [-4 -3] [-4 1] [4 3 -1] [4]]}]")
	f, cone = told(t, Polar, g, 8)
	is(t, "Polar", []any{cone, f}, "[[1 2 3 4] {4 [[3 -1 -2] [-4 -3] [-4 1] [4]]}]")
	f, cone = told(t, Encode, g, 1, 0)
	is(t, "Encode", []any{cone, f}, "[[] {0 [[]]}]")
	is(t, "Lift", must[[]bool](t)(Lift(g, []int{1, 2, 3, 4}, []int8{1, -1, -1, 1})), "[true false]")
	is(t, "Fill", must[[]int8](t)(Fill(g, []uint32{8}, []bool{true, false})), "[1 -1 -1 1]")
	_, _, e1 := Encode(nil, nil)
	_, _, e2 := Encode(g, []uint32{99})
	_, e3 := Fill(g, []uint32{8}, []bool{true})
	is(t, "errors", []api.Errno{e1, e2, e3}, []api.Errno{api.ErrNil, api.ErrNode, api.ErrArg})
}

// mixed: 10 is And(2, 4), 12 is And(11, 6), 14 is And(4, 13), 16 is And(13, 10), 18 is And(15, 17), and 20 an input behind them; 8 is one ahead that no gate has.
func mixed(t testing.TB) *aig.Graph {
	t.Helper()
	g := inputsOf(t, 4)
	for i, gate := range []api.Gate{{A: 2, B: 4}, {A: 11, B: 6}, {A: 4, B: 13}, {A: 13, B: 10}, {A: 15, B: 17}} {
		is(t, "And", must[uint32](t)(g.And(gate.A, gate.B)), 10+2*i)
	}
	is(t, "Input", must[uint32](t)(g.Input()), 20)
	return g
}

// Written by hand: the cone, all clauses, and those that are wanted.
func TestByHand(t *testing.T) {
	g := mixed(t)
	five := "(-3 1)(-3 2)(3 -1 -2)"
	for _, x := range []struct {
		roots               []uint32
		cone, encode, polar string
	}{
		{nil, "[]", "", ""},
		{[]uint32{}, "[]", "", ""},
		{[]uint32{1}, "[]", "", ""},
		{[]uint32{0}, "[]", "()", "()"},
		{[]uint32{0, 1, 0}, "[]", "()()", "()()"},
		{[]uint32{2}, "[1]", "(1)", "(1)"},
		{[]uint32{3}, "[1]", "(-1)", "(-1)"},
		{[]uint32{20}, "[10]", "(1)", "(1)"},
		{[]uint32{21, 8}, "[10 4]", "(-1)(2)", "(-1)(2)"},
		{[]uint32{2, 2}, "[1]", "(1)(1)", "(1)(1)"},
		{[]uint32{3, 2, 3}, "[1]", "(-1)(1)(-1)", "(-1)(1)(-1)"},
		{[]uint32{1, 3, 0, 4}, "[1 2]", "(-1)()(2)", "(-1)()(2)"},
		{[]uint32{10}, "[1 2 5]", five + "(3)", "(-3 1)(-3 2)(3)"},
		{[]uint32{11}, "[1 2 5]", five + "(-3)", "(3 -1 -2)(-3)"},
		{[]uint32{10, 11}, "[1 2 5]", five + "(3)(-3)", five + "(3)(-3)"},
		{[]uint32{11, 1, 10, 11}, "[1 2 5]", five + "(-3)(3)(-3)", five + "(-3)(3)(-3)"},
		{[]uint32{0, 11}, "[1 2 5]", five + "()(-3)", "(3 -1 -2)()(-3)"},
		{[]uint32{4, 10}, "[2 1 5]", "(-3 2)(-3 1)(3 -2 -1)(1)(3)", "(-3 2)(-3 1)(1)(3)"},
		{[]uint32{12}, "[1 2 5 3 6]", five + "(-5 -3)(-5 4)(5 3 -4)(5)", "(3 -1 -2)(-5 -3)(-5 4)(5)"},
		{[]uint32{13}, "[1 2 5 3 6]", five + "(-5 -3)(-5 4)(5 3 -4)(-5)", "(-3 1)(-3 2)(5 3 -4)(-5)"},
		{[]uint32{12, 10}, "[1 2 5 3 6]", five + "(-5 -3)(-5 4)(5 3 -4)(5)(3)", five + "(-5 -3)(-5 4)(5)(3)"},
		{[]uint32{12, 11}, "[1 2 5 3 6]", five + "(-5 -3)(-5 4)(5 3 -4)(5)(-3)", "(3 -1 -2)(-5 -3)(-5 4)(5)(-3)"},
		{[]uint32{14}, "[2 1 5 3 6 7]",
			"(-3 2)(-3 1)(3 -2 -1)" + "(-5 -3)(-5 4)(5 3 -4)" + "(-6 1)(-6 -5)(6 -1 5)" + "(6)",
			"(-3 2)(-3 1)" + "(5 3 -4)" + "(-6 1)(-6 -5)" + "(6)"},
		{[]uint32{16}, "[1 2 5 3 6 8]",
			five + "(-5 -3)(-5 4)(5 3 -4)" + "(-6 -5)(-6 3)(6 5 -3)" + "(6)",
			"(-3 1)(-3 2)" + "(5 3 -4)" + "(-6 -5)(-6 3)" + "(6)"},
		{[]uint32{17}, "[1 2 5 3 6 8]",
			five + "(-5 -3)(-5 4)(5 3 -4)" + "(-6 -5)(-6 3)(6 5 -3)" + "(-6)",
			"(3 -1 -2)" + "(-5 -3)(-5 4)" + "(6 5 -3)" + "(-6)"},
		{[]uint32{16, 13, 15}, "[1 2 5 3 6 8 7]",
			five + "(-5 -3)(-5 4)(5 3 -4)" + "(-6 -5)(-6 3)(6 5 -3)" + "(-7 2)(-7 -5)(7 -2 5)" + "(6)(-5)(-7)",
			five + "(-5 -3)(-5 4)(5 3 -4)" + "(-6 -5)(-6 3)" + "(7 -2 5)" + "(6)(-5)(-7)"},
		{[]uint32{18}, "[2 1 5 3 6 7 8 9]",
			"(-3 2)(-3 1)(3 -2 -1)" + "(-5 -3)(-5 4)(5 3 -4)" + "(-6 1)(-6 -5)(6 -1 5)" + "(-7 -5)(-7 3)(7 5 -3)" + "(-8 -6)(-8 -7)(8 6 7)" + "(8)",
			"(3 -2 -1)" + "(-5 -3)(-5 4)" + "(6 -1 5)" + "(7 5 -3)" + "(-8 -6)(-8 -7)" + "(8)"},
	} {
		for name, want := range map[string]string{"Encode": x.encode, "Polar": x.polar} {
			f, cone := told(t, both()[name], g, x.roots...)
			got := ""
			for _, c := range f.Clauses {
				text := fmt.Sprint([]int(c))
				got += "(" + text[1:len(text)-1] + ")"
			}
			is(t, fmt.Sprint(name, x.roots), []any{cone, f.Vars, got}, []any{x.cone, len(cone), want})
		}
	}
}

// What else is in the graph, and in which order the inputs were made, is not to be seen but in the cone.
func TestOthersInTheGraph(t *testing.T) {
	p := picker(3)
	for range 60 {
		g := grown(t, &p, 3, 30)
		h := inputsOf(t, 7)
		must[uint32](t)(h.And(3, 15))
		in := []uint32{}
		for range g.Inputs() {
			in = append(in, must[uint32](t)(h.Input()))
			must[uint32](t)(h.And(in[0], 13))
		}
		roots := literals(&p, g, 1+p.below(4))
		laid := must[[]uint32](t)(h.Lay(g, in, roots))
		for name, f := range both() {
			one, _ := told(t, f, g, roots...)
			other, _ := told(t, f, h, laid...)
			is(t, name, other, one)
		}
	}
}

func TestAgainstThePlainReading(t *testing.T) {
	p := picker(12)
	for round := range 700 {
		g := grown(t, &p, 1+p.below(5), round%90)
		for range 4 {
			roots := literals(&p, g, p.below(6))
			want := newPlain(t, g, roots)
			f, cone := told(t, Encode, g, roots...)
			is(t, fmt.Sprint("Encode", roots), []any{cone, f}, []any{want.cone, want.formula(true)})
			f, cone = told(t, Polar, g, roots...)
			is(t, fmt.Sprint("Polar", roots), []any{cone, f}, []any{want.cone, want.formula(false)})
			_, e := cnf.Check(f)
			is(t, "a formula that may be", e, api.OK)
		}
	}
}

// A graph that no call made is no promise, but nothing may panic.
func TestZeroGraph(t *testing.T) {
	for name, f := range both() {
		formula, cone := told(t, f, &aig.Graph{}, 0, 1)
		is(t, name, []any{cone, formula}, "[[] {0 [[]]}]")
	}
	is(t, "Lift", len(must[[]bool](t)(Lift(&aig.Graph{}, []int{0}, nil))), 0)
	is(t, "Fill", len(must[[]int8](t)(Fill(&aig.Graph{}, []uint32{1}, nil))), 0)
}
