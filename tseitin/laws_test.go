package tseitin

import (
	"fmt"
	"slices"
	"testing"

	"cadence/aig"
	"cadence/api"
	"cadence/cdcl"
	"cadence/cnf"
	"cadence/dpll"
)

// small: a graph and roots whose cone has at most so many nodes.
func small(t testing.TB, p *picker, most int) (*aig.Graph, []uint32) {
	t.Helper()
	for {
		g := grown(t, p, 1+p.below(4), p.below(12))
		roots := literals(p, g, 1+p.below(4))
		if cone := must[[]int](t)(g.Cone(roots)); len(cone) <= most && g.Inputs() <= 7 {
			return g, roots
		}
	}
}

func holds(t testing.TB, f api.Formula, m []int8) bool {
	t.Helper()
	value, _, e := cnf.Under(f, m)
	is(t, "Under", e, api.OK)
	return value == 1
}

// P1201: with all inputs. Where the roots are not all true, Fill does not make Encode's clauses true, since that would be P1202 broken.
func TestThere(t *testing.T) {
	p := picker(1201)
	for range 700 {
		g, roots := small(t, &p, 40)
		full, _ := told(t, Encode, g, roots...)
		polar, _ := told(t, Polar, g, roots...)
		for _, in := range settings(g.Inputs()) {
			m := must[[]int8](t)(Fill(g, roots, in))
			want := allTrue(t, g, roots, in)
			is(t, fmt.Sprint("Encode", roots, in), holds(t, full, m), want)
			is(t, fmt.Sprint("Polar", roots, in), holds(t, polar, m), want)
		}
	}
}

// coneInputs: an assignment's values of the inputs in the cone.
func coneInputs(g *aig.Graph, cone []int, m []int8) string {
	text := ""
	for i, n := range cone {
		if kind, gate, _ := g.Node(n); kind == 1 {
			text += fmt.Sprint(gate.A, m[i], " ")
		}
	}
	return text
}

// P1202 and P1203: with all assignments of all variables.
func TestBackAndOne(t *testing.T) {
	p := picker(1202)
	for range 250 {
		g, roots := small(t, &p, 11)
		full, cone := told(t, Encode, g, roots...)
		polar, _ := told(t, Polar, g, roots...)
		ways := map[string]int{}
		for _, m := range assignments(full.Vars) {
			in := must[[]bool](t)(Lift(g, cone, m))
			what := fmt.Sprint(roots, m)
			yes := allTrue(t, g, roots, in)
			if holds(t, polar, m) && !yes {
				t.Fatalf("Polar%s: not all roots are true", what)
			}
			if !holds(t, full, m) {
				continue
			}
			is(t, "Encode"+what, yes, true)
			is(t, "Fill of Lift"+what, must[[]int8](t)(Fill(g, roots, in)), m)
			ways[coneInputs(g, cone, m)]++
		}
		for _, in := range settings(g.Inputs()) {
			m := must[[]int8](t)(Fill(g, roots, in))
			want := 0
			if allTrue(t, g, roots, in) {
				want = 1
			}
			is(t, fmt.Sprint("models of ", roots, in), ways[coneInputs(g, cone, m)], want)
		}
	}
}

// P1204: some of them, in the same order.
func TestFewer(t *testing.T) {
	p := picker(1204)
	left := 0
	for round := range 600 {
		g := grown(t, &p, 1+p.below(6), round%120)
		roots := literals(&p, g, p.below(6))
		full, cone := told(t, Encode, g, roots...)
		polar, other := told(t, Polar, g, roots...)
		is(t, "cone, Vars", []any{other, polar.Vars}, []any{cone, full.Vars})
		rest := full.Clauses
		for _, c := range polar.Clauses {
			at := slices.IndexFunc(rest, func(d api.Clause) bool { return slices.Equal(c, d) })
			if at < 0 {
				t.Fatalf("%v of %v is not in order in %v", c, polar, full)
			}
			rest = rest[at+1:]
		}
		left += len(full.Clauses) - len(polar.Clauses)
	}
	if left < 1000 {
		t.Fatalf("Polar leaves out just %d clauses", left)
	}
}

// What the solvers find is what there is.
func TestSolved(t *testing.T) {
	p := picker(77)
	for range 300 {
		g, roots := small(t, &p, 60)
		can := slices.ContainsFunc(settings(g.Inputs()), func(in []bool) bool { return allTrue(t, g, roots, in) })
		for name, f := range both() {
			formula, cone := told(t, f, g, roots...)
			tried := must[api.Search](t)(dpll.Solve(formula, -1))
			solver := must[*cdcl.Solver](t)(cdcl.New(formula))
			learnt := must[api.Search](t)(solver.Solve(nil, -1))
			for _, s := range []api.Search{tried, learnt} {
				is(t, fmt.Sprint(name, roots), s.Kind == api.Sat, can)
				if s.Kind == api.Sat {
					in := must[[]bool](t)(Lift(g, cone, s.Model))
					is(t, fmt.Sprint(name, roots, in), allTrue(t, g, roots, in), true)
				}
			}
		}
	}
}
