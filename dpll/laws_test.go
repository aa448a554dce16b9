package dpll

import (
	"fmt"
	"math"
	"slices"
	"testing"

	"cadence/api"
	"cadence/cnf"
	"cadence/rup"
)

// some: formulas for the laws, of few variables.
func some(seed picker, count int) []api.Formula {
	all := formulasOverTwo()
	p := seed
	for range count {
		vars := p.below(9)
		all = append(all, p.formula(vars, 5*vars))
	}
	return append(all, pigeons(1), pigeons(2), pigeons(3))
}

// TestRight: P401, for each of the three calls.
func TestRight(t *testing.T) {
	p := picker(21)
	for _, f := range some(31, 3000) {
		models := allModels(f)
		searches := []api.Search{}
		s, _ := Solve(f, -1)
		searches = append(searches, s)
		s, _ = Least(f, p.first(f.Vars), -1)
		searches = append(searches, s)
		for _, s := range searches {
			switch s.Kind {
			case api.Sat:
				if value, _, _ := cnf.Under(f, s.Model); value != 1 || len(s.Model) != f.Vars || !fits(f, s.Model) {
					t.Fatalf("%v: %v is no model", f, s.Model)
				}
			case api.Unsat:
				if len(models) > 0 {
					t.Fatalf("%v: Unsat, but %v is a model", f, models[0])
				}
			default:
				t.Fatalf("%v: kind %d", f, s.Kind)
			}
		}
	}
}

// follows: do the units of some clauses, under the opposite of a clause, come to a conflict?
func follows(vars int, clauses []api.Clause, c api.Clause) bool {
	p := plain{f: api.Formula{Vars: vars, Clauses: slices.Clone(clauses)}}
	for _, l := range c {
		p.f.Clauses = append(p.f.Clauses, api.Clause{-l})
	}
	_, fine := p.closed(make([]int8, vars))
	return !fine
}

// proves: does each step follow by units from the formula and the steps ahead of it, and is the last one the empty clause?
func proves(f api.Formula, proof []api.Step) bool {
	clauses := slices.Clone(f.Clauses)
	for _, s := range proof {
		if s.Drop || !follows(f.Vars, clauses, s.Clause) {
			return false
		}
		clauses = append(clauses, s.Clause)
	}
	return len(proof) > 0 && len(proof[len(proof)-1].Clause) == 0
}

// TestProof: P402, and that a proof has a step for each conflict, all of positive set clauses.
func TestProof(t *testing.T) {
	p := picker(23)
	seen := 0
	for _, f := range some(37, 4000) {
		for _, first := range [][]int{nil, p.first(f.Vars)} {
			s, _ := Least(f, first, -1)
			if s.Kind != api.Unsat {
				if s.Proof != nil {
					t.Fatalf("%v: a proof of kind %d", f, s.Kind)
				}
				continue
			}
			seen++
			if s.Model != nil || int64(len(s.Proof)) != s.Conflicts || !proves(f, s.Proof) {
				t.Fatalf("%v, %v: %v", f, first, s.Proof)
			}
			if n, bad := rup.Check(f, s.Proof); bad != api.OK {
				t.Fatalf("%v, %v: %v is refused: %d, %v", f, first, s.Proof, n, bad)
			}
			for _, step := range s.Proof {
				set, twofold, _ := cnf.Norm(step.Clause)
				if !slices.Equal(set, step.Clause) || twofold || slices.ContainsFunc(set, func(l int) bool { return l < 0 }) {
					t.Fatalf("%v, %v: a step %v", f, first, step.Clause)
				}
			}
		}
	}
	if seen < 1000 {
		t.Errorf("only %d proofs", seen)
	}
}

// TestRising: P403 and P406: Models are all models, rising, each once; Solve's is the first of them; they are as many as Count says.
func TestRising(t *testing.T) {
	for _, f := range some(41, 3000) {
		models := allModels(f)
		got, s, bad := Models(f, 4096, -1)
		if bad != api.OK || s.Kind != api.Unsat || !sameModels(got, models) {
			t.Fatalf("%v: %v, %+v, %v", f, got, s, bad)
		}
		if n, _ := cnf.Count(f); uint64(len(got)) != n {
			t.Fatalf("%v: %d models, Count %d", f, len(got), n)
		}
		one, _ := Solve(f, -1)
		if len(models) > 0 && (one.Kind != api.Sat || !slices.Equal(one.Model, models[0])) {
			t.Fatalf("%v: %v is not the least", f, one.Model)
		}
		if len(models) == 0 && one.Kind != api.Unsat {
			t.Fatalf("%v: kind %d without a model", f, one.Kind)
		}
	}
}

// TestCountGreater: P406 at up to 4096 models of more variables.
func TestCountGreater(t *testing.T) {
	p := picker(43)
	for range 40 {
		f := p.formula(13, 40)
		f.Clauses = append(f.Clauses, api.Clause{1 + p.below(13)})
		n, _ := cnf.Count(f)
		got, s, bad := Models(f, 4096, -1)
		if bad != api.OK || uint64(len(got)) != n || n < 4096 && s.Kind != api.Unsat {
			t.Fatalf("%v: %d models, Count %d, %+v, %v", f, len(got), n, s, bad)
		}
	}
}

// TestEnough: P404: 2 to the power Vars less 1 is enough, and where all assignments are models one less is not.
func TestEnough(t *testing.T) {
	p := picker(47)
	for _, f := range some(53, 3000) {
		enough := int64(1)<<f.Vars - 1
		for _, budget := range []int64{enough, enough + 1, math.MaxInt64, -1, math.MinInt64} {
			one, _ := Solve(f, budget)
			least, _ := Least(f, p.first(f.Vars), budget)
			_, all, _ := Models(f, 4096, budget)
			if one.Kind == api.Spent || least.Kind == api.Spent || all.Kind == api.Spent {
				t.Fatalf("%v: spent with %d", f, budget)
			}
		}
	}
	for vars := range 12 {
		need := int64(1)<<vars - 1
		models, s, bad := Models(over(vars), 4096, need)
		wantAll(t, fmt.Sprint(vars, " variables"), models, s, bad, assignments(vars), ended(need, 0))
		if vars > 0 {
			models, s, bad = Models(over(vars), 4096, need-1)
			wantAll(t, fmt.Sprint(vars, " variables, one less"), models, s, bad, assignments(vars)[:need-1], spent(need-1, 0))
		}
	}
}

// TestMore: P405: below what a search needs it is spent, with just as many decisions as the budget says; from there on the answer is the same.
func TestMore(t *testing.T) {
	p := picker(59)
	for _, f := range some(61, 1500) {
		first, most := p.first(f.Vars), 1+p.below(20)
		same := func(what string, search func(budget int64) (api.Search, string)) {
			right, shown := search(-1)
			for budget := int64(0); budget <= right.Decisions+2; budget++ {
				s, text := search(budget)
				if s.Decisions > budget {
					t.Fatalf("%s of %v: %d decisions with the budget %d", what, f, s.Decisions, budget)
				}
				if budget < right.Decisions && (s.Kind != api.Spent || s.Decisions != budget || s.Model != nil || s.Proof != nil || s.Conflicts > right.Conflicts) {
					t.Fatalf("%s of %v with %d: %+v, but it needs %d", what, f, budget, s, right.Decisions)
				}
				if budget >= right.Decisions && text != shown {
					t.Fatalf("%s of %v with %d: %s, not %s", what, f, budget, text, shown)
				}
			}
		}
		same("Solve", func(budget int64) (api.Search, string) {
			s, bad := Solve(f, budget)
			return s, fmt.Sprint(s, bad)
		})
		same("Least", func(budget int64) (api.Search, string) {
			s, bad := Least(f, first, budget)
			return s, fmt.Sprint(s, bad)
		})
		same("Models", func(budget int64) (api.Search, string) {
			models, s, bad := Models(f, most, budget)
			return s, fmt.Sprint(models, s, bad)
		})
	}
}

// TestArguments: what is handed in stays as it is, its spare room too.
func TestArguments(t *testing.T) {
	p := picker(67)
	for range 500 {
		vars := 1 + p.below(8)
		f := roomy(p.formula(vars, 5*vars))
		first := p.first(vars)
		ahead := shown(f) + fmt.Sprint(first[:cap(first)])
		Solve(f, -1)
		Models(f, 20, -1)
		Least(f, first, -1)
		Solve(f, 2)
		if after := shown(f) + fmt.Sprint(first[:cap(first)]); after != ahead {
			t.Fatalf("changed:\n%s\n%s", ahead, after)
		}
	}
}

// fill: writes over a list and its spare room, and grows it.
func fill[T any](list []T, with T) {
	list = list[:cap(list)]
	for i := range list {
		list[i] = with
	}
	_ = append(list, with)
}

// TestOwn: what is handed out is the caller's: written over and grown, it changes neither what stands beside it nor what comes later.
func TestOwn(t *testing.T) {
	p := picker(71)
	formulas := append(some(73, 500), over(3), pigeons(4))
	for _, f := range formulas {
		ahead := shown(f)
		first := p.first(f.Vars)
		s, _ := Least(f, first, -1)
		text := fmt.Sprint(s)
		right := plainOne(f, first, -1)
		fill(s.Model, 7)
		for i := range s.Proof {
			if !slices.Equal(s.Proof[i].Clause, right.Proof[i].Clause) {
				t.Fatalf("%v: step %d was written over", f, i)
			}
			fill(s.Proof[i].Clause, 9)
		}
		fill(s.Proof, api.Step{Drop: true, Clause: api.Clause{5}})
		models, _, _ := Models(f, 300, -1)
		all, _ := plainAll(f, 300, -1)
		for i := range models {
			if !slices.Equal(models[i], all[i]) {
				t.Fatalf("%v: model %d was written over", f, i)
			}
			fill(models[i], 3)
		}
		fill(models, nil)
		if again, _ := Least(f, first, -1); fmt.Sprint(again) != text || shown(f) != ahead {
			t.Fatalf("%v: %v, then %v", f, text, again)
		}
	}
}

// TestEachAlone: searches that run side by side share nothing.
func TestEachAlone(t *testing.T) {
	f := pigeons(5)
	right := fmt.Sprint(Solve(f, -1))
	answers := make(chan string)
	for range 8 {
		go func() { answers <- fmt.Sprint(Solve(f, -1)) }()
	}
	for range 8 {
		if got := <-answers; got != right {
			t.Errorf("another answer")
		}
	}
}
