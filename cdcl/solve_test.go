package cdcl

import (
	"math"
	"reflect"
	"slices"
	"testing"

	"cadence/api"
)

// TestSolve: F6.2: edges: what each comes to.
func TestSolve(t *testing.T) {
	for _, c := range []struct {
		what   string
		f      api.Formula
		assume []int
		kind   int
		core   []int
	}{
		{"no variables", over(0), nil, api.Sat, nil},
		{"no variables, an empty clause", over(0, nil), nil, api.Unsat, nil},
		{"no clauses", over(3), nil, api.Sat, nil},
		{"no clauses, assumptions", over(3), []int{-2, 3, 1}, api.Sat, nil},
		{"an empty clause", over(2, api.Clause{1, 2}, api.Clause{}), nil, api.Unsat, nil},
		{"an empty clause, assumptions", over(2, api.Clause{1, 2}, api.Clause{}), []int{1, -1}, api.Unsat, nil},
		{"a literal twice", over(2, api.Clause{1, 1}), []int{-2}, api.Sat, nil},
		{"a literal twice, its opposite assumed", over(2, api.Clause{1, 1}), []int{2, -1}, api.Unsat, []int{-1}},
		{"a literal both ways", over(2, api.Clause{1, -1}), []int{-1}, api.Sat, nil},
		{"a literal both ways, and twice", over(2, api.Clause{1, 2, -1, 1}), []int{-2, 1}, api.Sat, nil},
		{"an assumption twice", over(2, api.Clause{1, 2}), []int{-1, -1}, api.Sat, nil},
		{"an assumption twice, in the core", over(2, api.Clause{1}), []int{-1, 2, -1}, api.Unsat, []int{-1}},
		{"an assumption and its opposite", over(3), []int{3, 1, -3, 2}, api.Unsat, []int{3, -3}},
		{"an assumption and its opposite, twice", over(3), []int{2, 2, -2, -2, 2}, api.Unsat, []int{2, -2}},
		{"an assumption that follows, and its opposite", over(2, api.Clause{1}), []int{1, -1}, api.Unsat, []int{-1}},
		{"assumptions of variables that no clause has", over(4, api.Clause{1, 2}, api.Clause{-1, 2}), []int{4, -3}, api.Sat, nil},
		{"likewise, beside the core", over(4, api.Clause{1, 2}, api.Clause{-1, 2}), []int{4, -2, -3}, api.Unsat, []int{-2}},
		{"units that can not be", over(2, api.Clause{1}, api.Clause{-1}), []int{2}, api.Unsat, nil},
		{"a chain, assumed at its end", over(3, api.Clause{1}, api.Clause{-1, 2}, api.Clause{-2, 3}), []int{-3}, api.Unsat, []int{-3}},
		{"a chain between two assumptions", over(4, api.Clause{-1, 2}, api.Clause{-2, 3}), []int{-3, 4, 1}, api.Unsat, []int{-3, 1}},
		{"four", four(), []int{1, 2}, api.Unsat, nil},
		{"three", three(), []int{2, 1}, api.Sat, nil},
	} {
		for _, budget := range []int64{-1, math.MinInt64, math.MaxInt64} {
			x := asked(t, made(t, c.f), c.assume, budget)
			if x.Kind != c.kind || c.kind == api.Unsat && len(c.f.Clauses) < 4 && !slices.Equal(x.Core, c.core) {
				t.Errorf("%s: %v", c.what, x)
			}
		}
	}
}

// TestEmptyAdded: F6.1, F6.2: behind an added empty clause nothing can be, for ever.
func TestEmptyAdded(t *testing.T) {
	s := made(t, over(3, api.Clause{1, 2}))
	asked(t, s, []int{-1}, -1)
	if bad := s.Add(api.Clause{}); bad != api.OK {
		t.Fatal(bad)
	}
	for range 3 {
		for _, assume := range [][]int{nil, {1}, {1, -1}, {3}} {
			for _, budget := range []int64{-1, 0, 1} {
				if x := asked(t, s, assume, budget); x.Kind != api.Unsat || len(x.Core) != 0 {
					t.Fatalf("Solve(%v): %v", assume, x)
				}
			}
		}
		rightLog(t, s)
		if bad := s.Add(api.Clause{3, 1}); bad != api.OK {
			t.Fatal(bad)
		}
	}
	if n := len(s.Formula().Clauses); n != 5 {
		t.Errorf("%d clauses", n)
	}
}

// TestSolveErrors: F6.2: ErrArg comes ahead of ErrLit, and nothing beside an error.
func TestSolveErrors(t *testing.T) {
	refused := func(s *Solver, assume []int, want api.Errno) {
		t.Helper()
		if x, bad := s.Solve(assume, -1); bad != want || !reflect.DeepEqual(x, api.Search{}) {
			t.Errorf("%v: %v, %v", want, x, bad)
		}
	}
	for _, vars := range []int{0, 1, 2} {
		s := made(t, over(vars))
		for _, l := range noLiterals(vars) {
			refused(s, []int{l}, api.ErrLit)
			if vars > 0 {
				refused(s, []int{1, -1, l}, api.ErrLit)
			}
		}
		refused(s, make([]int, api.MaxVars+1), api.ErrArg)
	}
	refused(made(t, over(0, nil)), []int{1}, api.ErrLit)
	refused(made(t, over(1, nil)), slices.Repeat([]int{1}, api.MaxVars+1), api.ErrArg)
}

// TestMostAssumptions: F6.2: as many assumptions as MaxVars, and one more.
func TestMostAssumptions(t *testing.T) {
	s := made(t, over(3, api.Clause{1, 2}))
	most := slices.Repeat([]int{-1, 3}, api.MaxVars/2)
	if x := asked(t, s, most, -1); x.Kind != api.Sat {
		t.Errorf("MaxVars assumptions: Kind %d", x.Kind)
	}
	most[api.MaxVars-1] = -2
	if x := asked(t, s, most, -1); x.Kind != api.Unsat || !slices.Equal(x.Core, []int{-1, -2}) {
		t.Errorf("MaxVars assumptions, the last one false: %v", x)
	}
	if x, bad := s.Solve(append(most, 3), -1); bad != api.ErrArg || !reflect.DeepEqual(x, api.Search{}) {
		t.Errorf("one more: %v, %v", x, bad)
	}
}

// TestManyVariables: F6.2 of MaxVars variables, free ones, assumed ones, and a chain through nearly all of them.
func TestManyVariables(t *testing.T) {
	all := make([]int, api.MaxVars)
	f := api.Formula{Vars: api.MaxVars}
	for i := range all {
		all[i] = i + 1
		if i > 8 {
			f.Clauses = append(f.Clauses, api.Clause{-i, i + 1})
		}
	}
	if x := asked(t, made(t, over(api.MaxVars)), nil, -1); x.Kind != api.Sat {
		t.Errorf("nothing: Kind %d", x.Kind)
	}
	s := made(t, f)
	if x := asked(t, s, all, -1); x.Kind != api.Sat || slices.Contains(x.Model, -1) {
		t.Errorf("all assumed: Kind %d", x.Kind)
	}
	if x := asked(t, s, []int{1, 20, -api.MaxVars, -2}, -1); x.Kind != api.Unsat || !slices.Equal(x.Core, []int{20, -api.MaxVars}) {
		t.Errorf("both ends of the chain: Kind %d, the core %v", x.Kind, x.Core)
	}
}

// TestLongClauses: F6.2 of MaxLits literals in long clauses whose literals become false one by one: no clause is gone through from its beginning each time.
func TestLongClauses(t *testing.T) {
	long := make(api.Clause, api.MaxClause)
	for i := range long {
		long[i] = i + 1
	}
	f := api.Formula{Vars: api.MaxClause}
	for range api.MaxLits / api.MaxClause {
		f.Clauses = append(f.Clauses, long)
	}
	if x := asked(t, made(t, f), nil, -1); x.Kind != api.Sat {
		t.Errorf("Kind %d", x.Kind)
	}
}

// TestBudgets: F6.2: with each budget up to what a search needs it is Spent, with Conflicts just the budget; with more, and below 0, always the same comes.
func TestBudgets(t *testing.T) {
	p := picker(19)
	formulas := []api.Formula{pigeons(2), pigeons(3), pigeons(4), four(), three(), over(0), over(1, nil)}
	for range 20 {
		formulas = append(formulas, p.three(30, 130))
	}
	spent := 0
	for _, f := range formulas {
		right := asked(t, made(t, f), nil, -1)
		if right.Kind == api.Spent {
			t.Fatal("spent without a budget")
		}
		for _, budget := range []int64{0, 1, 2, 3, 5, right.Conflicts - 1, right.Conflicts, right.Conflicts + 1, math.MaxInt64} {
			x := asked(t, made(t, f), nil, max(0, budget))
			if x.Kind == api.Spent {
				spent++
			}
			if max(0, budget) < right.Conflicts != (x.Kind == api.Spent) {
				t.Fatalf("a budget of %d where %d are needed: Kind %d", budget, right.Conflicts, x.Kind)
			}
			if x.Kind != api.Spent {
				wantSame(t, x, right)
			}
		}
	}
	if spent < 100 {
		t.Errorf("only %d were spent", spent)
	}
}

// TestNeverSpent: F6.2: with a budget below 0, whichever, a hard formula is not Spent.
func TestNeverSpent(t *testing.T) {
	for _, budget := range []int64{-1, -2, math.MinInt64} {
		if x := asked(t, made(t, pigeons(5)), nil, budget); x.Kind != api.Unsat || x.Conflicts < 10 || x.Decisions < 10 {
			t.Errorf("a budget of %d: Kind %d, %d conflicts, %d decisions", budget, x.Kind, x.Conflicts, x.Decisions)
		}
	}
}

// TestBehindSpent: P602: asked again behind a Spent, with small budgets, a search comes to its end, since what it learnt is kept; and it is right.
func TestBehindSpent(t *testing.T) {
	p := picker(23)
	formulas := []api.Formula{pigeons(4), pigeons(5)}
	for range 20 {
		formulas = append(formulas, p.three(40, 175))
	}
	for _, f := range formulas {
		want := asked(t, made(t, f), nil, -1)
		s := made(t, f)
		calls := int64(1)
		for x := asked(t, s, nil, 3); x.Kind == api.Spent; x = asked(t, s, nil, 3) {
			if calls++; calls > 100+10*want.Conflicts {
				t.Fatalf("spent %d times, where %d conflicts are enough", calls, want.Conflicts)
			}
		}
		if x := asked(t, s, nil, -1); x.Kind != want.Kind {
			t.Fatalf("Kind %d, not %d", x.Kind, want.Kind)
		}
		rightLog(t, s)
	}
}

// TestHard: P601, F6.3: searches in which much is learnt, and much forgotten; a model, a proof and the log are right.
func TestHard(t *testing.T) {
	p := picker(29)
	kinds := make([]int, 4)
	formulas := []api.Formula{pigeons(6), pigeons(7)}
	for range 12 {
		formulas = append(formulas, p.three(150, 640))
	}
	for _, f := range formulas {
		s := made(t, f)
		kinds[asked(t, s, nil, -1).Kind]++
		rightLog(t, s)
	}
	if kinds[api.Sat] == 0 || kinds[api.Unsat] < 4 {
		t.Errorf("the kinds: %v", kinds)
	}
}

// TestHardCore: P601, P603: a hard part that holds under an assumption: the core has it, and nothing that stands beside.
func TestHardCore(t *testing.T) {
	f := guarded(pigeons(5))
	g := f.Vars
	f.Vars += 3
	s := made(t, f)
	if x := asked(t, s, []int{-g, g + 2}, -1); x.Kind != api.Sat {
		t.Errorf("without the guard: Kind %d", x.Kind)
	}
	for range 3 {
		if x := asked(t, s, []int{g + 1, g, -g - 2, g + 3}, -1); x.Kind != api.Unsat || !slices.Equal(x.Core, []int{g}) {
			t.Errorf("with the guard: Kind %d, the core %v", x.Kind, x.Core)
		}
	}
	if bad := s.Add(api.Clause{g}); bad != api.OK {
		t.Fatal(bad)
	}
	if x := asked(t, s, []int{1, 2}, -1); x.Kind != api.Unsat || len(x.Core) != 0 {
		t.Errorf("with the guard as a clause: Kind %d, the core %v", x.Kind, x.Core)
	}
}
