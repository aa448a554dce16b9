package cdcl

import (
	"slices"
	"testing"

	"cadence/api"
	"cadence/dpll"
)

// kindOf: what a search must come to, as dpll finds it.
func kindOf(t testing.TB, f api.Formula, assume []int) int {
	t.Helper()
	s, bad := dpll.Solve(with(f, assume), -1)
	if bad != api.OK {
		t.Fatal(bad)
	}
	return s.Kind
}

// TestAllOverTwo: P601, P603: every formula over two variables under every list of up to three assumptions, asked one behind the other, held against trying all assignments.
func TestAllOverTwo(t *testing.T) {
	lists := [][]int{nil}
	for _, at := range lists {
		lists = grown(lists, at)
	}
	for _, at := range slices.Clone(lists[1:]) {
		lists = grown(lists, at)
	}
	for _, at := range slices.Clone(lists[5:]) {
		lists = grown(lists, at)
	}
	if len(lists) != 85 {
		t.Fatalf("%d lists", len(lists))
	}
	for _, f := range formulasOverTwo() {
		s := made(t, f)
		for _, assume := range lists {
			want := api.Unsat
			if len(models(with(f, assume))) > 0 {
				want = api.Sat
			}
			x := asked(t, s, assume, -1)
			if x.Kind != want {
				t.Fatalf("%v under %v: %v", f, assume, x)
			}
			if x.Kind == api.Unsat && len(models(with(f, x.Core))) > 0 {
				t.Fatalf("%v under %v: the core %v", f, assume, x.Core)
			}
		}
		rightLog(t, s)
	}
}

// grown: with one literal over two variables more behind a list.
func grown(lists [][]int, at []int) [][]int {
	for _, l := range []int{1, -1, 2, -2} {
		lists = append(lists, append(slices.Clone(at), l))
	}
	return lists
}

// TestMany: P601 to P604: solvers asked many times, with clauses added between, under any budgets: each answer is right, and the same as dpll's where it is not Spent.
func TestMany(t *testing.T) {
	p := picker(31)
	kinds := make([]int, 4)
	for range 4000 {
		vars := p.below(11)
		s := made(t, p.formula(vars, 4*vars))
		for range 6 {
			assume, budget := p.literals(vars, 5), int64(p.below(8)-2)
			x := asked(t, s, assume, budget)
			kinds[x.Kind]++
			if want := kindOf(t, s.Formula(), assume); x.Kind != want && x.Kind != api.Spent {
				t.Fatalf("%v under %v: %v", s.Formula(), assume, x)
			}
			rightLog(t, s)
			if p.below(3) > 0 {
				s.Add(p.clause(vars))
			}
		}
	}
	if slices.Min(kinds[1:]) < 20 {
		t.Errorf("the kinds: %v", kinds)
	}
}

// TestMoreVariables: P601: formulas that are not easy, against dpll.
func TestMoreVariables(t *testing.T) {
	p := picker(37)
	for range 300 {
		vars := 12 + p.below(12)
		f := p.three(vars, vars*(35+p.below(20))/10)
		s := made(t, f)
		for range 5 {
			assume := p.literals(vars, 6)
			if x := asked(t, s, assume, -1); x.Kind != kindOf(t, f, assume) {
				t.Fatalf("%v under %v: %v", f, assume, x)
			}
		}
		rightLog(t, s)
	}
}

// TestAgain: P602: what was asked ahead changes no Kind.
func TestAgain(t *testing.T) {
	p := picker(41)
	for range 300 {
		vars := 4 + p.below(26)
		f := p.three(vars, vars*(35+p.below(20))/10)
		old := made(t, f)
		for range 8 {
			assume := p.literals(vars, 4)
			asked(t, old, p.literals(vars, 4), int64(p.below(12)))
			if x, y := asked(t, old, assume, -1), asked(t, made(t, f), assume, -1); x.Kind != y.Kind {
				t.Fatalf("%v under %v: asked ahead %d, else %d", f, assume, x.Kind, y.Kind)
			}
		}
	}
}

// TestCore: P603: the core alone is Unsat, of the same solver and of a new one.
func TestCore(t *testing.T) {
	p := picker(43)
	seen, smaller := 0, 0
	for range 1500 {
		vars := 3 + p.below(20)
		f := p.three(vars, vars*(20+p.below(25))/10)
		assume := p.literals(vars, vars)
		s := made(t, f)
		x := asked(t, s, assume, -1)
		if x.Kind != api.Unsat {
			continue
		}
		seen++
		if len(x.Core) < len(assume) {
			smaller++
		}
		for _, s := range []*Solver{s, made(t, f)} {
			if y := asked(t, s, x.Core, -1); y.Kind != api.Unsat {
				t.Fatalf("%v: the core %v of %v is not Unsat", f, x.Core, assume)
			}
		}
	}
	if seen < 500 || smaller < 400 {
		t.Errorf("only %d were Unsat, %d with a smaller core", seen, smaller)
	}
}

// TestMoreClauses: P604: what is Unsat under assumptions stays so when clauses are added.
func TestMoreClauses(t *testing.T) {
	p := picker(47)
	for range 300 {
		vars := 3 + p.below(20)
		s := made(t, p.three(vars, 2*vars))
		var never [][]int
		for range 10 {
			assume := p.literals(vars, 5)
			if x := asked(t, s, assume, -1); x.Kind == api.Unsat {
				never = append(never, assume)
			}
			for _, assume := range never {
				if x := asked(t, s, assume, -1); x.Kind != api.Unsat {
					t.Fatalf("%v under %v: %v", s.Formula(), assume, x)
				}
			}
			s.Add(p.clause(vars))
		}
	}
}

// TestOneByOne: P601: a formula handed in clause by clause, with questions between, comes to the same as at once.
func TestOneByOne(t *testing.T) {
	p := picker(53)
	for range 200 {
		vars := 3 + p.below(15)
		f := p.three(vars, 5*vars)
		s := made(t, over(vars))
		for i, c := range f.Clauses {
			s.Add(c)
			if p.below(3) == 0 {
				part := over(vars, f.Clauses[:i+1]...)
				if x := asked(t, s, nil, -1); x.Kind != kindOf(t, part, nil) {
					t.Fatalf("%v: %v", part, x)
				}
			}
		}
		if x := asked(t, s, nil, -1); x.Kind != kindOf(t, f, nil) || !sameFormula(s.Formula(), f) {
			t.Fatalf("%v: %v", f, x)
		}
	}
}

// TestLog: F6.3: behind each call, and with a Solver of which nothing was asked; the log of a hard search is not empty, so there is something to check.
func TestLog(t *testing.T) {
	if log := made(t, four()).Log(); len(log) > 0 {
		rightLog(t, made(t, four()))
	}
	p := picker(59)
	long := 0
	for range 60 {
		vars := 20 + p.below(30)
		s := made(t, p.three(vars, 4*vars))
		for range 8 {
			asked(t, s, p.literals(vars, 3), int64(p.below(40)-1))
			rightLog(t, s)
			s.Add(p.clause(vars))
			rightLog(t, s)
		}
		long = max(long, len(s.Log()))
	}
	if long < 20 {
		t.Errorf("no log has more than %d steps", long)
	}
}
