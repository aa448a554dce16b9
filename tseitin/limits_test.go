package tseitin

import (
	"slices"
	"testing"

	"cadence/aig"
	"cadence/api"
	"cadence/cnf"
)

// size: how many variables and clauses an answer has, and its error; its formula may be.
func size(t testing.TB, f call, g *aig.Graph, roots ...uint32) []int {
	t.Helper()
	formula, cone, e := f(g, roots)
	_, bad := cnf.Check(formula)
	is(t, "Check", bad, api.OK)
	is(t, "the cone", len(cone), formula.Vars)
	return []int{formula.Vars, len(formula.Clauses), int(e)}
}

// chain: each gate is the and of the one ahead of it, or its opposite, and of one of two inputs, by turns; all gates' literals.
func chain(t testing.TB, gates int, turned bool) (*aig.Graph, []uint32) {
	t.Helper()
	g := inputsOf(t, 2)
	list := []uint32{}
	last := must[uint32](t)(g.And(2, 4))
	for i := range gates {
		list = append(list, last)
		if turned {
			last = aig.Not(last)
		}
		if i < gates-1 {
			last = must[uint32](t)(g.And(last, uint32(2+i%2*2)))
		}
	}
	is(t, "nodes", g.Nodes(), 3+gates)
	return g, list
}

// Just api.MaxVars nodes, and one more: as inputs, where the clauses are as many, and ErrVars comes first.
func TestMostVariables(t *testing.T) {
	g := inputsOf(t, api.MaxVars+1)
	roots := make([]uint32, api.MaxVars+1)
	for i := range roots {
		roots[i] = uint32(2*(i+1) + i%2)
	}
	in := make([]bool, len(roots))
	for name, f := range both() {
		is(t, name, size(t, f, g, roots[1:]...), []int{api.MaxVars, api.MaxVars, 0})
		is(t, name, size(t, f, g, roots[:api.MaxVars]...), []int{api.MaxVars, api.MaxVars, 0})
	}
	refused(t, g, roots, in, api.ErrVars)
	refused(t, g, append(slices.Clone(roots), 0, 1), in, api.ErrVars)
	refused(t, g, append(slices.Clone(roots), uint32(2*g.Nodes())), in, api.ErrNode)
	refusedFill(t, g, roots, in[1:], api.ErrArg)
	refusedFill(t, g, roots, append(in, true), api.ErrArg)
	m := must[[]int8](t)(Fill(g, roots[1:], in))
	is(t, "Fill", []int{len(m), int(slices.Max(m))}, []int{api.MaxVars, -1})
}

// The same where most nodes are gates that need few clauses: nothing but the nodes is too many.
func TestMostVariablesOfGates(t *testing.T) {
	const inputs = api.MaxVars/2 + 1
	g := inputsOf(t, inputs)
	all := []uint32{}
	for i := range inputs {
		all = append(all, uint32(2*(i+1)))
	}
	top := must[uint32](t)(g.All(all))
	is(t, "nodes", g.Nodes(), 2*inputs)
	// All but one of the inputs, and the gates of these; then that input beside them.
	few := aig.Not(top - 2)
	is(t, "Polar", size(t, Polar, g, few), []int{api.MaxVars - 1, inputs - 1, 0})
	is(t, "Polar", size(t, Polar, g, few, all[inputs-1]), []int{api.MaxVars, inputs, 0})
	is(t, "Encode", size(t, Encode, g, few, all[inputs-1]), []int{0, 0, int(api.ErrClauses)})
	refused(t, g, []uint32{aig.Not(top)}, make([]bool, inputs), api.ErrVars)
	is(t, "Fill", len(must[[]int8](t)(Fill(g, []uint32{few, all[inputs-1]}, make([]bool, inputs)))), api.MaxVars)
}

// Just api.MaxClauses clauses, and one more.
func TestMostClauses(t *testing.T) {
	const gates = (api.MaxClauses - 1) / 3
	g, list := chain(t, gates+1, true)
	last := list[gates-1]
	most, refusal := []int{gates + 2, api.MaxClauses, 0}, []int{0, 0, int(api.ErrClauses)}
	for _, roots := range [][]uint32{{last}, {last + 1}, {1, last, 1}} {
		is(t, "Encode", size(t, Encode, g, roots...), most)
	}
	for _, roots := range [][]uint32{{last, last}, {last, last + 1}, {last, 0}, {0, last}, {last, 1, 2}, {list[gates]}} {
		is(t, "Encode", size(t, Encode, g, roots...), refusal)
		is(t, "Encode", size(t, Encode, g, append(roots, uint32(2*g.Nodes()))...), []int{0, 0, int(api.ErrNode)})
	}
	// Each gate is wanted both ways: by itself, and by its opposite.
	last = list[gates-2]
	most[0]--
	is(t, "Polar", size(t, Polar, g, last, last+1, last, 0), most)
	is(t, "Polar", size(t, Polar, g, last, last+1, last, 0, 3), refusal)
	_, e := Fill(g, []uint32{list[gates]}, []bool{true, true})
	is(t, "Fill", e, api.OK)
}

// The clauses of which the even literals alone are wanted.
func TestMostClausesOfPolar(t *testing.T) {
	const gates = api.MaxClauses/2 - 1
	g, list := chain(t, gates+1, false)
	last, refusal := list[gates-1], []int{0, 0, int(api.ErrClauses)}
	is(t, "Polar", size(t, Polar, g, last), []int{gates + 2, api.MaxClauses - 1, 0})
	is(t, "Polar", size(t, Polar, g, last, 2), []int{gates + 2, api.MaxClauses, 0})
	is(t, "Polar", size(t, Polar, g, last, 2, 4), refusal)
	is(t, "Polar", size(t, Polar, g, last, 0, last), refusal)
	is(t, "Polar", size(t, Polar, g, list[gates]), refusal)
	is(t, "Polar", size(t, Polar, g, list[gates]+1), []int{gates + 3, gates + 2, 0})
	is(t, "Encode", size(t, Encode, g, last), refusal)
}

// Roots alone: each has its clause, but 1.
func TestManyRoots(t *testing.T) {
	g := example(t)
	for name, f := range both() {
		for _, x := range []struct {
			root uint32
			vars int
		}{{0, 0}, {2, 1}, {5, 1}} {
			roots := slices.Repeat([]uint32{x.root}, api.MaxClauses)
			is(t, name, size(t, f, g, roots...), []int{x.vars, api.MaxClauses, 0})
			is(t, name, size(t, f, g, append(roots, 1)...), []int{x.vars, api.MaxClauses, 0})
			is(t, name, size(t, f, g, append(roots, x.root)...), []int{0, 0, int(api.ErrClauses)})
			is(t, name, size(t, f, g, append(roots, 1, 0)...), []int{0, 0, int(api.ErrClauses)})
		}
		ones := slices.Repeat([]uint32{1}, api.MaxClauses+9)
		is(t, name, size(t, f, g, ones...), []int{0, 0, 0})
		is(t, name, size(t, f, g, append(ones, 9)...)[2], 0)
	}
}

// A very deep graph, clause by clause. Its cone is 1, 2, 3 and so on.
func TestDeep(t *testing.T) {
	const gates = 300000
	g, list := chain(t, gates, true)
	top := list[gates-1]
	full, _ := told(t, Encode, g, top)
	polar, _ := told(t, Polar, g, top)
	var all, wanted []api.Clause
	for i := range gates {
		n, a, b := i+3, -(i + 2), 2-i%2
		if i == 0 {
			a = 1
		}
		three := []api.Clause{{-n, a}, {-n, b}, {n, -a, -b}}
		all = append(all, three...)
		if (gates-i)%2 == 1 {
			wanted = append(wanted, three[:2]...)
		} else {
			wanted = append(wanted, three[2])
		}
	}
	end := api.Clause{gates + 2}
	same := func(got, want []api.Clause) bool {
		return slices.EqualFunc(got, append(want, end), slices.Equal[api.Clause])
	}
	is(t, "clauses", []bool{same(full.Clauses, all), same(polar.Clauses, wanted)}, "[true true]")
	m := must[[]int8](t)(Fill(g, []uint32{top}, []bool{true, true}))
	is(t, "Fill", []any{len(m), m[:6]}, []any{gates + 2, "[1 1 1 -1 1 -1]"})
	in := must[[]bool](t)(Lift(g, must[[]int](t)(g.Cone([]uint32{top})), m))
	is(t, "Lift", in, "[true true]")
}

// Beyond the variables that there may be, an assignment says nothing (chapter 2).
func TestLiftOfManyPlaces(t *testing.T) {
	g := example(t)
	m := make([]int8, api.MaxVars+2)
	for i := range m {
		m[i] = 1
	}
	cone := slices.Repeat([]int{3}, api.MaxVars+2)
	cone[api.MaxVars-1], cone[api.MaxVars] = 1, 2
	is(t, "Lift", must[[]bool](t)(Lift(g, cone, m)), "[true false]")
	cone[7] = 2
	is(t, "Lift", must[[]bool](t)(Lift(g, cone, m)), "[true true]")
}

// A few nodes of a very great graph.
func TestGreatGraph(t *testing.T) {
	const inputs = 1 << 24
	g := inputsOf(t, inputs)
	x := must[uint32](t)(g.Xor(2*inputs, 2))
	for name, f := range both() {
		formula, cone := told(t, f, g, x)
		is(t, name, []any{cone, formula.Vars}, []any{[]int{inputs, 1, inputs + 1, inputs + 2, inputs + 3}, 5})
	}
	in := must[[]bool](t)(Lift(g, []int{1, inputs}, []int8{-1, 1}))
	is(t, "Lift", []any{len(in), slices.Index(in, true)}, []any{inputs, inputs - 1})
	is(t, "Fill", must[[]int8](t)(Fill(g, []uint32{x}, in)), "[1 -1 -1 -1 1]")
}
