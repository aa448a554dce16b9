package dpll

import (
	"fmt"
	"slices"
	"testing"

	"cadence/api"
)

// TestAllOverTwo: all formulas over two variables, with all budgets, lists and numbers of models that matter.
func TestAllOverTwo(t *testing.T) {
	for _, f := range formulasOverTwo() {
		for budget := int64(-1); budget <= 4; budget++ {
			for _, first := range [][]int{nil, {1}, {2}, {1, 2}, {2, 1}} {
				got, bad := Least(f, first, budget)
				want(t, fmt.Sprint(f, first, budget), got, bad, plainOne(f, first, budget))
			}
			got, bad := Solve(f, budget)
			want(t, fmt.Sprint(f, budget), got, bad, plainOne(f, nil, budget))
			for most := 1; most <= 5; most++ {
				models, got, bad := Models(f, most, budget)
				all, right := plainAll(f, most, budget)
				wantAll(t, fmt.Sprint(f, most, budget), models, got, bad, all, right)
			}
		}
	}
}

// TestMany: formulas of up to 9 variables, held against the search in the chapter's words.
func TestMany(t *testing.T) {
	p := picker(11)
	kinds := map[int]int{}
	for range 20000 {
		vars := p.below(10)
		f := p.formula(vars, 1+4*vars)
		budget := int64(p.below(12)) - 1
		if p.below(2) == 0 {
			budget = -1
		}
		got, bad := Solve(f, budget)
		want(t, fmt.Sprint(f, budget), got, bad, plainOne(f, nil, budget))
		kinds[got.Kind]++
		first := p.first(vars)
		got, bad = Least(f, first, budget)
		want(t, fmt.Sprint(f, first, budget), got, bad, plainOne(f, first, budget))
		most := 1 + p.below(1<<p.below(10))
		models, got, bad := Models(f, most, budget)
		all, right := plainAll(f, most, budget)
		wantAll(t, fmt.Sprint(f, most, budget), models, got, bad, all, right)
	}
	for _, kind := range []int{api.Sat, api.Unsat, api.Spent} {
		if kinds[kind] < 1000 {
			t.Errorf("kind %d came %d times", kind, kinds[kind])
		}
	}
}

// TestHard: formulas of three literals a clause, about as many as make it hard.
func TestHard(t *testing.T) {
	p := picker(5)
	for range 60 {
		f := api.Formula{Vars: 24}
		for range 100 {
			f.Clauses = append(f.Clauses, api.Clause{p.literal(24), p.literal(24), p.literal(24)})
		}
		got, bad := Solve(f, -1)
		want(t, fmt.Sprint(f), got, bad, plainOne(f, nil, -1))
		first := p.first(24)
		got, bad = Least(f, first, -1)
		want(t, fmt.Sprint(f, first), got, bad, plainOne(f, first, -1))
		models, got, bad := Models(f, 9, -1)
		all, right := plainAll(f, 9, -1)
		wantAll(t, fmt.Sprint(f), models, got, bad, all, right)
	}
}

func TestPigeons(t *testing.T) {
	for holes := range 6 {
		f := pigeons(holes)
		got, bad := Solve(f, -1)
		want(t, fmt.Sprint(holes, " holes"), got, bad, plainOne(f, nil, -1))
		var back []int
		for v := f.Vars; v > 0; v-- {
			back = append(back, v)
		}
		got, bad = Least(f, back, -1)
		want(t, fmt.Sprint(holes, " holes, last first"), got, bad, plainOne(f, back, -1))
		got, bad = Solve(f, 40)
		want(t, fmt.Sprint(holes, " holes, budget 40"), got, bad, plainOne(f, nil, 40))
	}
}

// TestManyVariables: at the limits, and with values far behind the decisions.
func TestManyVariables(t *testing.T) {
	got, bad := Solve(over(api.MaxVars), -1)
	if bad != api.OK || got.Kind != api.Sat || got.Decisions != api.MaxVars || len(got.Model) != api.MaxVars || slices.Contains(got.Model, 1) {
		t.Errorf("no clauses: kind %d, %d decisions, %v", got.Kind, got.Decisions, bad)
	}
	back := make([]int, api.MaxVars)
	for i := range back {
		back[i] = api.MaxVars - i
	}
	got, bad = Least(over(api.MaxVars, api.Clause{1, api.MaxVars}), back, -1)
	if bad != api.OK || got.Kind != api.Sat || got.Decisions != api.MaxVars-1 || got.Model[0] != 1 || slices.Contains(got.Model[1:], 1) {
		t.Errorf("last first: kind %d, %d decisions, %v", got.Kind, got.Decisions, bad)
	}
	got, bad = Solve(over(api.MaxVars), api.MaxVars-1)
	want(t, "one decision less", got, bad, spent(api.MaxVars-1, 0))
	chain := over(api.MaxVars, api.Clause{1})
	for v := 1; v < api.MaxVars; v++ {
		chain.Clauses = append(chain.Clauses, api.Clause{v + 1, -v})
	}
	got, bad = Solve(chain, 0)
	if bad != api.OK || got.Kind != api.Sat || got.Decisions != 0 || slices.Contains(got.Model, -1) {
		t.Errorf("a chain: kind %d, %d decisions, %v", got.Kind, got.Decisions, bad)
	}
	models, got, bad := Models(over(70000), 3, -1)
	if bad != api.OK || got.Decisions != 70001 || len(models) != 3 || models[1][69999] != 1 || models[2][69998] != 1 || models[2][69999] != -1 {
		t.Errorf("three of many: %d models, %d decisions, %v", len(models), got.Decisions, bad)
	}
}

// moved: clauses with variables from some one on moved up.
func moved(clauses []api.Clause, from, up int) []api.Clause {
	var all []api.Clause
	for _, c := range clauses {
		c = slices.Clone(c)
		for i, l := range c {
			if l >= from {
				c[i] = l + up
			} else if l <= -from {
				c[i] = l - up
			}
		}
		all = append(all, c)
	}
	return all
}

// TestFarApart: what is hard stands at both ends of many variables that follow from the first decision: the next one must be found without going through them.
func TestFarApart(t *testing.T) {
	const middle = 1 << 18
	hard := pigeons(7)
	half := hard.Vars / 2
	f := over(hard.Vars+middle, moved(hard.Clauses, half+1, middle)...)
	for v := half + 1; v <= half+middle; v++ {
		f.Clauses = append(f.Clauses, api.Clause{v, 1}, api.Clause{v, -1})
	}
	right, _ := Solve(hard, -1)
	for i, s := range right.Proof {
		right.Proof[i].Clause = moved([]api.Clause{s.Clause}, half+1, middle)[0]
	}
	got, bad := Solve(f, -1)
	if bad != api.OK || !sameSearch(got, right) {
		t.Errorf("kind %d, %d decisions, %d conflicts, %v", got.Kind, got.Decisions, got.Conflicts, bad)
	}
}

// TestLongSpent: many open decisions at many conflicts, whose clauses all together would be far too much to keep: no proof is told of them.
func TestLongSpent(t *testing.T) {
	hard := pigeons(9)
	f := over(200000+hard.Vars, moved(hard.Clauses, 1, 200000)...)
	got, bad := Solve(f, 300000)
	if bad != api.OK || got.Kind != api.Spent || got.Decisions != 300000 || got.Conflicts < 80000 || got.Proof != nil || got.Model != nil {
		t.Errorf("kind %d, %d decisions, %d conflicts, %v", got.Kind, got.Decisions, got.Conflicts, bad)
	}
}

func TestPlaces(t *testing.T) {
	p := picker(3)
	for _, n := range []int{0, 1, 2, 63, 64, 65, 4095, 4096, 4097, 64*64*64 + 1} {
		set := allPlaces(n)
		in := make([]bool, n)
		for i := range in {
			in[i] = true
		}
		check := func() {
			t.Helper()
			if got := set.least(); got != slices.Index(in, true) {
				t.Fatalf("%d places: least %d, not %d", n, got, slices.Index(in, true))
			}
		}
		check()
		for range min(n, 2000) {
			i := p.below(n)
			set.remove(i)
			in[i] = false
			check()
			least := set.least()
			if least >= 0 {
				set.remove(least)
				in[least] = false
				check()
			}
			if p.below(3) == 0 {
				i = p.below(n)
				set.put(i)
				in[i] = true
				check()
			}
		}
		for i := range n {
			set.remove(i)
			in[i] = false
		}
		check()
	}
}
