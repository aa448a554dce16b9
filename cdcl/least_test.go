package cdcl

import (
	"math"
	"reflect"
	"slices"
	"testing"

	"cadence/api"
)

// plainLeast: of all models one that has the most of what is wanted, the first ones first; as far as that goes: which of the wanted literals are true in it.
func plainLeast(f api.Formula, want []int) []bool {
	left := models(f)
	var have []bool
	for _, l := range want {
		with := slices.DeleteFunc(slices.Clone(left), func(m []int8) bool { return !isTrue(m, l) })
		if len(with) > 0 {
			left = with
		}
		have = append(have, len(with) > 0)
	}
	return have
}

// had: which of the wanted literals a model has.
func had(m []int8, want []int) []bool {
	var have []bool
	for _, l := range want {
		have = append(have, isTrue(m, l))
	}
	return have
}

// leastOf: what Least answers, if it is what F6.4 says of its Kind.
func leastOf(t testing.TB, f api.Formula, want []int, budget int64) ([]int8, api.Search) {
	t.Helper()
	m, x, bad := Least(f, want, budget)
	if bad != api.OK {
		t.Fatalf("Least: %v", bad)
	}
	rightCounts(t, budget, x)
	if x.Kind == api.Sat {
		rightModel(t, f, m)
	} else if m != nil {
		t.Fatalf("Kind %d with a model", x.Kind)
	}
	if x.Kind == api.Unsat {
		rightProof(t, f, x.Proof)
	} else if x.Proof != nil {
		t.Fatalf("Kind %d with a proof", x.Kind)
	}
	if x.Model != nil || x.Core != nil {
		t.Fatalf("a model %v, a core %v", x.Model, x.Core)
	}
	return m, x
}

// TestLeast: F6.4: edges.
func TestLeast(t *testing.T) {
	for _, c := range []struct {
		what string
		f    api.Formula
		want []int
		have []bool // nil: Unsat
	}{
		{"no variables", over(0), nil, []bool{}},
		{"no variables, an empty clause", over(0, nil), nil, nil},
		{"nothing wanted", over(2, api.Clause{1, 2}), nil, []bool{}},
		{"no clauses", over(3), []int{2, -3, 1}, []bool{true, true, true}},
		{"the first one first", over(2, api.Clause{1, 2}), []int{-1, -2}, []bool{true, false}},
		{"the other first", over(2, api.Clause{1, 2}), []int{-2, -1}, []bool{true, false}},
		{"one that can not be", over(2, api.Clause{-1, -1}), []int{1, 2}, []bool{false, true}},
		{"one of a pair", over(3, api.Clause{-1, -2}, api.Clause{-2, -3}), []int{2, 1, 3}, []bool{true, false, false}},
		{"all but one", over(3, api.Clause{-1, -2, -3}), []int{3, 1, 2}, []bool{true, true, false}},
		{"an empty clause", over(2, api.Clause{1}, nil), []int{1, 2}, nil},
		{"four", four(), []int{2}, nil},
		{"four, nothing wanted", four(), nil, nil},
		{"three", three(), []int{-1, -2}, []bool{false, false}},
	} {
		m, x := leastOf(t, c.f, c.want, -1)
		if c.have == nil != (x.Kind == api.Unsat) || x.Kind == api.Sat && !slices.Equal(had(m, c.want), c.have) {
			t.Errorf("%s: %v, %v", c.what, m, x)
		}
	}
}

// TestLeastOverTwo: F6.4 of every formula over two variables and every list of wants, against trying all assignments.
func TestLeastOverTwo(t *testing.T) {
	lists := [][]int{nil, {1}, {-1}, {2}, {-2}, {1, 2}, {1, -2}, {-1, 2}, {-1, -2}, {2, 1}, {2, -1}, {-2, 1}, {-2, -1}}
	for _, f := range formulasOverTwo() {
		for _, want := range lists {
			wantLeast(t, f, want)
		}
	}
}

// wantLeast: Least is held against trying all assignments.
func wantLeast(t *testing.T, f api.Formula, want []int) {
	t.Helper()
	m, x := leastOf(t, f, want, -1)
	if len(models(f)) == 0 != (x.Kind == api.Unsat) {
		t.Fatalf("%v: %v", f, x)
	}
	if x.Kind == api.Sat && !slices.Equal(had(m, want), plainLeast(f, want)) {
		t.Fatalf("%v, wanted %v: %v", f, want, m)
	}
}

// TestLeastMany: F6.4 likewise, of more variables.
func TestLeastMany(t *testing.T) {
	p := picker(61)
	for range 2500 {
		vars := p.below(9)
		wantLeast(t, p.formula(vars, 4*vars), p.wants(vars))
	}
	for range 200 {
		vars := 8 + p.below(5)
		wantLeast(t, p.three(vars, 4*vars), p.wants(vars))
	}
}

// TestLeastBudgets: F6.4: Spent comes with the conflicts of all its calls just the budget; from what is needed on the same comes as without one.
func TestLeastBudgets(t *testing.T) {
	p := picker(67)
	spent := 0
	for range 60 {
		f := p.three(25, 95)
		want := p.wants(25)
		model, right := leastOf(t, f, want, -1)
		for budget := range right.Conflicts + 2 {
			m, x := leastOf(t, f, want, budget)
			if budget < right.Conflicts != (x.Kind == api.Spent) {
				t.Fatalf("a budget of %d where %d are needed: Kind %d", budget, right.Conflicts, x.Kind)
			}
			if x.Kind == api.Spent {
				spent++
			} else if wantSame(t, x, right); !slices.Equal(m, model) {
				t.Fatal("another model")
			}
		}
		m, x := leastOf(t, f, want, math.MinInt64)
		if wantSame(t, x, right); !slices.Equal(m, model) {
			t.Fatal("another model")
		}
	}
	if spent < 300 {
		t.Errorf("only %d were spent", spent)
	}
}

// TestLeastErrors: F6.4: cnf.Check's error, then ErrLit, then ErrArg, and nothing beside it.
func TestLeastErrors(t *testing.T) {
	refused := func(what string, f api.Formula, want []int, right api.Errno) {
		t.Helper()
		if m, x, bad := Least(f, want, -1); bad != right || m != nil || !reflect.DeepEqual(x, api.Search{}) {
			t.Errorf("%s: %v, %v, %v", what, m, x, bad)
		}
	}
	for right, f := range wrongFormulas() {
		refused("a wrong formula", f, nil, right)
		refused("a wrong formula, and wants", f, []int{0, 1, 1}, right)
	}
	for _, l := range noLiterals(3) {
		refused("no literal", over(3), []int{l}, api.ErrLit)
		refused("no literal at the end", over(3), []int{1, -2, l}, api.ErrLit)
		refused("no literal behind a variable twice", over(3), []int{1, 1, l}, api.ErrLit)
	}
	for _, want := range [][]int{{1, 1}, {1, -1}, {-2, 3, 2}, {3, 1, 2, 3}} {
		refused("a variable twice", over(3), want, api.ErrArg)
		refused("a variable twice, of what can not be", over(3, nil), want, api.ErrArg)
	}
	refused("more than there are", over(3), slices.Repeat([]int{1, 2, 3}, api.MaxVars), api.ErrArg)
}

// TestLeastManyVariables: F6.4 of MaxVars variables and as many wants: pairs of which only one can be, the greatest first.
func TestLeastManyVariables(t *testing.T) {
	f := api.Formula{Vars: api.MaxVars}
	var want []int
	for v := api.MaxVars; v > 0; v-- {
		want = append(want, v)
		if v%2 == 0 {
			f.Clauses = append(f.Clauses, api.Clause{-v, 1 - v})
		}
	}
	m, _ := leastOf(t, f, want, -1)
	for v := 1; v <= api.MaxVars; v++ {
		if isTrue(m, v) != (v%2 == 0) {
			t.Fatalf("%d: %d", v, m[v-1])
		}
	}
}

// TestLeastChoices: F6.4: where all that is wanted can be there is one call, with one choice a variable; else Decisions is the sum of all calls.
func TestLeastChoices(t *testing.T) {
	if _, x := leastOf(t, over(4), []int{2, -4, 1, -3}, -1); x.Decisions != 4 {
		t.Errorf("%d decisions for four variables", x.Decisions)
	}
	p := picker(101)
	more := 0
	for range 100 {
		f, want := p.three(25, 95), p.wants(25)
		s := made(t, f)
		s.prefer(want)
		first := s.ask(nil, -1)
		_, x := leastOf(t, f, want, -1)
		if x.Decisions < first.decisions || x.Conflicts < first.conflicts {
			t.Fatalf("%v is less than that of the first call", x)
		}
		if x.Decisions > first.decisions {
			more++
		}
	}
	if more == 0 {
		t.Error("no sum was needed")
	}
}

// TestLeastHandedOut: the model and the proof are the caller's.
func TestLeastHandedOut(t *testing.T) {
	p := picker(71)
	for range 200 {
		vars := 3 + p.below(10)
		f := roomyFormula(p.three(vars, vars*(30+p.below(30))/10))
		want := p.wants(vars)
		m, x := leastOf(t, f, want, -1)
		n, y := leastOf(t, f, want, -1)
		ahead := shown(f, want)
		fill(n, 5)
		eachAlone(t, y.Proof, api.Formula{})
		scribble(api.Formula{}, y.Proof)
		o, z := leastOf(t, f, want, -1)
		if wantSame(t, x, z); !slices.Equal(m, o) || shown(f, want) != ahead {
			t.Fatal("an answer shares memory")
		}
	}
}
