package dpll

import (
	"fmt"
	"math"
	"slices"
	"testing"

	"cadence/api"
)

func sat(decisions, conflicts int64, model ...int8) api.Search {
	return api.Search{Kind: api.Sat, Model: model, Decisions: decisions, Conflicts: conflicts}
}

// unsat: each conflict has its clause.
func unsat(decisions int64, proof ...api.Clause) api.Search {
	s := api.Search{Kind: api.Unsat, Decisions: decisions, Conflicts: int64(len(proof))}
	for _, c := range proof {
		s.Proof = append(s.Proof, api.Step{Clause: c})
	}
	return s
}

func spent(decisions, conflicts int64) api.Search {
	return api.Search{Kind: api.Spent, Decisions: decisions, Conflicts: conflicts}
}

func ended(decisions, conflicts int64) api.Search {
	return api.Search{Kind: api.Unsat, Decisions: decisions, Conflicts: conflicts}
}

func found(decisions, conflicts int64) api.Search {
	return api.Search{Kind: api.Sat, Decisions: decisions, Conflicts: conflicts}
}

// four: all clauses of two literals over two variables.
func four() api.Formula {
	return over(2, api.Clause{1, 2}, api.Clause{-1, 2}, api.Clause{1, -2}, api.Clause{-1, -2})
}

func TestSolve(t *testing.T) {
	for _, c := range []struct {
		name   string
		f      api.Formula
		budget int64
		want   api.Search
	}{
		{"nothing over 2", over(2), -1, sat(2, 0, -1, -1)},
		{"three clauses", over(2, api.Clause{1, 2}, api.Clause{-1, 2}, api.Clause{1, -2}), -1, sat(1, 1, 1, 1)},
		{"four clauses", four(), -1, unsat(1, api.Clause{1}, api.Clause{})},
		{"four clauses, budget 0", four(), 0, spent(0, 0)},
		{"four clauses, budget 1", four(), 1, unsat(1, api.Clause{1}, api.Clause{})},
		{"the empty clause over 3", over(3, api.Clause{}), -1, unsat(0, api.Clause{})},
		{"the empty clause, budget 0", over(3, api.Clause{}), 0, unsat(0, api.Clause{})},
		{"two empty clauses", over(0, api.Clause{}, nil), -1, unsat(0, api.Clause{})},
		{"no variables", over(0), -1, sat(0, 0)},
		{"no variables, budget 0", over(0), 0, sat(0, 0)},
		{"no variables, the empty clause", over(0, nil), 0, unsat(0, api.Clause{})},
		{"units, budget 0", over(2, api.Clause{2}, api.Clause{-1}), 0, sat(0, 0, -1, 1)},
		{"a chain, budget 0", over(3, api.Clause{-2, 3}, api.Clause{-1, 2}, api.Clause{1}), 0, sat(0, 0, 1, 1, 1)},
		{"units that fight", over(1, api.Clause{1}, api.Clause{-1}), 0, unsat(0, api.Clause{})},
		{"a literal twice", over(1, api.Clause{1, 1}), 0, sat(0, 0, 1)},
		{"a literal thrice, and one that is false", over(2, api.Clause{-1}, api.Clause{2, 1, 2, 2}), 0, sat(0, 0, -1, 1)},
		{"both ways", over(1, api.Clause{1, -1}), -1, sat(1, 0, -1)},
		{"both ways, no budget left", over(1, api.Clause{-1, 1}), 0, spent(0, 0)},
		{"both ways with one more", over(2, api.Clause{2, -1, 1}), -1, sat(2, 0, -1, -1)},
		{"variables in no clause", over(4, api.Clause{3}), -1, sat(3, 0, -1, -1, 1, -1)},
		{"variables in no clause, one less", over(4, api.Clause{3}), 2, spent(2, 0)},
		{"variables in no clause, just enough", over(4, api.Clause{3}), 3, sat(3, 0, -1, -1, 1, -1)},
		{"a conflict ahead of the end of the budget", over(2, api.Clause{1, 2}, api.Clause{1, -2}), 1, spent(1, 1)},
		{"turned twice", over(3, api.Clause{1, 2, 3}, api.Clause{1, 2, -3}, api.Clause{1, -2, 3}, api.Clause{1, -2, -3}), 2, spent(2, 2)},
		{"turned twice, then on", over(3, api.Clause{1, 2, 3}, api.Clause{1, 2, -3}, api.Clause{1, -2, 3}, api.Clause{1, -2, -3}), 4, sat(4, 2, 1, -1, -1)},
		{"below the last open one", over(3, api.Clause{2, 3}, api.Clause{2, -3}, api.Clause{-2, 3}, api.Clause{-2, -3}), -1, unsat(3, api.Clause{1, 2}, api.Clause{1}, api.Clause{2}, api.Clause{})},
	} {
		got, bad := Solve(c.f, c.budget)
		want(t, c.name, got, bad, c.want)
		got, bad = Least(c.f, nil, c.budget)
		want(t, c.name+", Least", got, bad, c.want)
	}
}

func TestNoBudget(t *testing.T) {
	for _, budget := range noBudgets {
		got, bad := Solve(over(2), budget)
		want(t, fmt.Sprint("Solve with ", budget), got, bad, sat(2, 0, -1, -1))
		got, bad = Least(four(), []int{2}, budget)
		want(t, fmt.Sprint("Least with ", budget), got, bad, unsat(1, api.Clause{2}, api.Clause{}))
		models, got, bad := Models(over(1), 2, budget)
		wantAll(t, fmt.Sprint("Models with ", budget), models, got, bad, [][]int8{{-1}, {1}}, found(1, 0))
	}
}

func TestModels(t *testing.T) {
	either := over(2, api.Clause{1, 2})
	three := [][]int8{{-1, 1}, {1, -1}, {1, 1}}
	for _, c := range []struct {
		name   string
		f      api.Formula
		most   int
		budget int64
		models [][]int8
		want   api.Search
	}{
		{"either, most 9", either, 9, -1, three, ended(2, 0)},
		{"either, most 1", either, 1, -1, three[:1], found(1, 0)},
		{"either, most 2", either, 2, -1, three[:2], found(2, 0)},
		{"either, as many as there are", either, 3, -1, three, found(2, 0)},
		{"either, one more", either, 4, -1, three, ended(2, 0)},
		{"either, most 4096", either, 4096, -1, three, ended(2, 0)},
		{"either, budget 0", either, 9, 0, nil, spent(0, 0)},
		{"either, budget 1", either, 9, 1, three[:1], spent(1, 0)},
		{"either, budget 1 and most 1", either, 1, 1, three[:1], found(1, 0)},
		{"either, budget 2", either, 9, 2, three, ended(2, 0)},
		{"no variables", over(0), 1, 0, [][]int8{{}}, found(0, 0)},
		{"no variables, most 2", over(0), 2, 0, [][]int8{{}}, ended(0, 0)},
		{"the empty clause", over(3, api.Clause{}), 7, 0, nil, ended(0, 1)},
		{"four clauses", four(), 4096, -1, nil, ended(1, 2)},
		{"a unit", over(1, api.Clause{1}), 5, 0, [][]int8{{1}}, ended(0, 0)},
		{"a conflict behind a model", over(2, api.Clause{-1, 2}, api.Clause{-1, -2}, api.Clause{1, 2}), 5, -1, [][]int8{{-1, 1}}, ended(1, 1)},
		{"a conflict ahead of a model", over(2, api.Clause{1, 2}, api.Clause{1, -2}), 2, -1, [][]int8{{1, -1}, {1, 1}}, found(2, 1)},
	} {
		models, got, bad := Models(c.f, c.most, c.budget)
		wantAll(t, c.name, models, got, bad, c.models, c.want)
	}
}

func TestModelsMost(t *testing.T) {
	f := over(13)
	for _, most := range []int{1, 2, 4095, 4096} {
		models, got, bad := Models(f, most, -1)
		if bad != api.OK || got.Kind != api.Sat || !sameModels(models, assignments(13)[:most]) {
			t.Fatalf("most %d: %d models, %+v, %v", most, len(models), got, bad)
		}
	}
	models, got, bad := Models(over(12), 4096, -1)
	wantAll(t, "4096 of 4096", models, got, bad, assignments(12), found(4095, 0))
	models, got, bad = Models(over(12, api.Clause{12, 11}), 4096, -1)
	wantAll(t, "3072 of 4096", models, got, bad, allModels(over(12, api.Clause{12, 11})), ended(1024*3-1, 0))
}

func TestLeast(t *testing.T) {
	either := over(2, api.Clause{1, 2})
	for _, c := range []struct {
		name   string
		f      api.Formula
		first  []int
		budget int64
		want   api.Search
	}{
		{"either, 2 first", either, []int{2}, -1, sat(1, 0, 1, -1)},
		{"either, nothing first", either, []int{}, -1, sat(1, 0, -1, 1)},
		{"either, all first", either, []int{2, 1}, -1, sat(1, 0, 1, -1)},
		{"either, in order", either, []int{1, 2}, -1, sat(1, 0, -1, 1)},
		{"either, budget 0", either, []int{2}, 0, spent(0, 0)},
		{"no variables", over(0), nil, 0, sat(0, 0)},
		{"then the least of the others", over(4, api.Clause{1, 2}, api.Clause{3, 4}), []int{4}, -1, sat(2, 0, -1, 1, 1, -1)},
		{"the list's order", over(3, api.Clause{1, 3}), []int{3, 1}, -1, sat(2, 0, 1, -1, -1)},
		{"the list's order, the other way", over(3, api.Clause{1, 3}), []int{1, 3}, -1, sat(2, 0, -1, -1, 1)},
		{"four clauses, 2 first", four(), []int{2}, -1, unsat(1, api.Clause{2}, api.Clause{})},
	} {
		got, bad := Least(c.f, c.first, c.budget)
		want(t, c.name, got, bad, c.want)
	}
}

func TestLeastProof(t *testing.T) {
	f := api.Formula{Vars: 3, Clauses: clausesOver(3)[1:]}
	f.Clauses = slices.DeleteFunc(f.Clauses, func(c api.Clause) bool { return len(c) < 3 })
	for _, c := range []struct {
		first []int
		want  api.Search
	}{
		{nil, unsat(3, api.Clause{1, 2}, api.Clause{1}, api.Clause{2}, api.Clause{})},
		{[]int{3}, unsat(3, api.Clause{1, 3}, api.Clause{3}, api.Clause{1}, api.Clause{})},
		{[]int{3, 2}, unsat(3, api.Clause{2, 3}, api.Clause{3}, api.Clause{2}, api.Clause{})},
		{[]int{2, 3, 1}, unsat(3, api.Clause{2, 3}, api.Clause{2}, api.Clause{3}, api.Clause{})},
	} {
		got, bad := Least(f, c.first, -1)
		want(t, fmt.Sprint("first ", c.first), got, bad, c.want)
	}
}

func TestFormulaErrors(t *testing.T) {
	long := make(api.Clause, api.MaxClause+1)
	for i := range long {
		long[i] = 1
	}
	lits := over(1)
	for range api.MaxLits / api.MaxClause {
		lits.Clauses = append(lits.Clauses, long[:api.MaxClause])
	}
	lits.Clauses = append(lits.Clauses, api.Clause{1})
	for _, c := range []struct {
		name string
		f    api.Formula
		want api.Errno
	}{
		{"variables below 0", over(-1), api.ErrVars},
		{"the least number of variables", over(math.MinInt), api.ErrVars},
		{"one variable too many", over(api.MaxVars + 1), api.ErrVars},
		{"far too many variables", over(math.MaxInt, api.Clause{0}), api.ErrVars},
		{"one clause too many", over(1, make([]api.Clause, api.MaxClauses+1)...), api.ErrClauses},
		{"one literal too many in a clause", over(1, long), api.ErrClause},
		{"one literal too many in all", lits, api.ErrClauses},
		{"no literal", over(2, api.Clause{}, api.Clause{1, 0}), api.ErrLit},
		{"a literal above", over(2, api.Clause{3}), api.ErrLit},
		{"a literal below", over(2, api.Clause{-3}), api.ErrLit},
		{"the least number", over(2, api.Clause{math.MinInt}), api.ErrLit},
		{"a literal of no variables", over(0, api.Clause{1}), api.ErrLit},
	} {
		refusedOne(t, c.name+", Solve", c.want)(Solve(c.f, -1))
		refusedOne(t, c.name+", Least", c.want)(Least(c.f, nil, 0))
		refusedOne(t, c.name+", Least of a bad list", c.want)(Least(c.f, []int{0, 0}, 5))
		refusedAll(t, c.name+", Models", c.want)(Models(c.f, 1, -1))
		refusedAll(t, c.name+", Models of a bad most", c.want)(Models(c.f, 0, 0))
	}
}

func TestModelsErrors(t *testing.T) {
	for _, most := range []int{0, -1, 4097, 1 << 32, 1<<32 + 1, math.MinInt, math.MaxInt} {
		for _, f := range []api.Formula{over(2), over(0), over(1, nil), four()} {
			refusedAll(t, fmt.Sprint("most ", most), api.ErrArg)(Models(f, most, -1))
			refusedAll(t, fmt.Sprint("most ", most, " with budget 0"), api.ErrArg)(Models(f, most, 0))
		}
	}
}

func TestLeastErrors(t *testing.T) {
	for _, first := range [][]int{{0}, {-1}, {4}, {1, 1}, {2, 3, 2}, {1, 2, 3, 3}, {1, 2, 3, 4}, {3, -2}, {1, 0}, {math.MinInt}, {math.MaxInt}, {1 << 32}, {1<<32 + 1}, {-1 << 32}} {
		refusedOne(t, fmt.Sprint("first ", first), api.ErrArg)(Least(over(3), first, -1))
		refusedOne(t, fmt.Sprint("first ", first, " with the empty clause"), api.ErrArg)(Least(over(3, nil), first, 0))
	}
	refusedOne(t, "a variable of none", api.ErrArg)(Least(over(0), []int{1}, -1))
	refusedOne(t, "0 of none", api.ErrArg)(Least(over(0), []int{0}, -1))
}

// refusedOne: an error, and nothing beside it.
func refusedOne(t *testing.T, what string, right api.Errno) func(api.Search, api.Errno) {
	t.Helper()
	return func(s api.Search, bad api.Errno) {
		t.Helper()
		if bad != right || !sameSearch(s, api.Search{}) {
			t.Errorf("%s: %+v, %v, not %v", what, s, bad, right)
		}
	}
}

func refusedAll(t *testing.T, what string, right api.Errno) func([][]int8, api.Search, api.Errno) {
	t.Helper()
	return func(models [][]int8, s api.Search, bad api.Errno) {
		t.Helper()
		refusedOne(t, what, right)(s, bad)
		if len(models) != 0 {
			t.Errorf("%s: models %v", what, models)
		}
	}
}
