package cdcl

import (
	"fmt"
	"reflect"
	"slices"
	"testing"

	"cadence/api"
)

func TestExamples(t *testing.T) {
	s := made(t, three())
	if x := asked(t, s, nil, -1); x.Kind != api.Sat || !slices.Equal(x.Model, []int8{1, 1}) {
		t.Fatalf("Solve(nil): %v", x)
	}
	if x := asked(t, s, []int{-2}, -1); x.Kind != api.Unsat || !slices.Equal(x.Core, []int{-2}) {
		t.Fatalf("Solve([-2]): %v", x)
	}
	if bad := s.Add(api.Clause{-1, -2}); bad != api.OK {
		t.Fatalf("Add([-1 -2]): %v", bad)
	}
	if x := asked(t, s, nil, -1); x.Kind != api.Unsat || len(x.Core) != 0 {
		t.Fatalf("Solve(nil) of four: %v", x)
	}
	if _, bad := s.Solve([]int{3}, -1); bad != api.ErrLit || s.Add(api.Clause{0}) != api.ErrLit {
		t.Fatal("a literal that is none")
	}
	if s, bad := New(over(2, api.Clause{5})); s != nil || bad != api.ErrLit {
		t.Fatalf("New of a literal 5 over 2: %v, %v", s, bad)
	}
	if x := asked(t, made(t, over(1)), []int{1, -1}, -1); x.Kind != api.Unsat || !slices.Equal(x.Core, []int{1, -1}) {
		t.Fatalf("Solve([1 -1]) of nothing: %v", x)
	}
	m, x, bad := Least(over(2, api.Clause{1, 2}), []int{-1, -2}, -1)
	if x.Kind != api.Sat || !slices.Equal(m, []int8{-1, 1}) || bad != api.OK {
		t.Fatalf("Least of (1 2): %v, %v, %v", m, x, bad)
	}
}

// TestFormula: F6.1: the clauses as they were handed in, those of New ahead of the added ones.
func TestFormula(t *testing.T) {
	start := over(4, api.Clause{3, -1, 3}, api.Clause{2, -2}, api.Clause{-4}, api.Clause{3, -1, 3})
	s := made(t, start)
	want := start
	for _, c := range []api.Clause{{4, 4}, {1}, nil, {}, {-3, 3, 1, 1}, {2, -1}} {
		if bad := s.Add(c); bad != api.OK {
			t.Fatalf("Add(%v): %v", c, bad)
		}
		want.Clauses = append(slices.Clone(want.Clauses), c)
		if f := s.Formula(); !sameFormula(f, want) {
			t.Fatalf("behind Add(%v): %v", c, f)
		}
		asked(t, s, []int{1, 3}, -1)
		if f := s.Formula(); !sameFormula(f, want) {
			t.Fatalf("behind Solve: %v", f)
		}
	}
	for _, vars := range []int{0, 1, 7, api.MaxVars} {
		if f := made(t, over(vars)).Formula(); f.Vars != vars || len(f.Clauses) != 0 {
			t.Errorf("nothing over %d: %v", vars, f)
		}
	}
}

// TestFormulaMany: F6.1: whatever the solver learns and forgets, the clauses are as they were.
func TestFormulaMany(t *testing.T) {
	p := picker(3)
	for range 300 {
		vars := 1 + p.below(30)
		f := p.formula(vars, 6*vars)
		s := made(t, f)
		want := api.Formula{Vars: vars, Clauses: slices.Clone(f.Clauses)}
		for range 6 {
			asked(t, s, p.literals(vars, 4), int64(p.below(20)-1))
			c := p.clause(vars)
			s.Add(c)
			want.Clauses = append(want.Clauses, c)
			if !sameFormula(s.Formula(), want) {
				t.Fatalf("%v, not %v", s.Formula(), want)
			}
		}
	}
}

// TestNewErrors: F6.1: cnf.Check's errors, and no solver with them.
func TestNewErrors(t *testing.T) {
	for want, f := range wrongFormulas() {
		if s, bad := New(f); s != nil || bad != want {
			t.Errorf("%v: %v, %v", want, s, bad)
		}
	}
	for _, vars := range []int{-1, api.MaxVars + 1, -1 << 63, 1<<63 - 1} {
		if s, bad := New(over(vars)); s != nil || bad != api.ErrVars {
			t.Errorf("%d variables: %v, %v", vars, s, bad)
		}
	}
	for _, vars := range []int{0, 1, 2} {
		for _, l := range noLiterals(vars) {
			if s, bad := New(over(vars, nil, api.Clause{l})); s != nil || bad != api.ErrLit {
				t.Errorf("the literal %d over %d: %v, %v", l, vars, s, bad)
			}
		}
	}
}

// TestAddErrors: F6.1: each error of Add, and which comes first.
func TestAddErrors(t *testing.T) {
	s := made(t, over(2, api.Clause{1, 2}))
	for _, l := range noLiterals(2) {
		for _, c := range []api.Clause{{l}, {1, l}, {l, 1, 2}} {
			if bad := s.Add(c); bad != api.ErrLit {
				t.Errorf("Add(%v): %v", c, bad)
			}
		}
	}
	long := slices.Repeat(api.Clause{1, -2}, api.MaxClause/2)
	if bad := s.Add(append(slices.Clone(long), 1)); bad != api.ErrClause {
		t.Errorf("MaxClause + 1 literals: %v", bad)
	}
	if bad := s.Add(append(slices.Clone(long), 0)); bad != api.ErrClause {
		t.Errorf("MaxClause + 1 literals, the last one wrong: %v", bad)
	}
	if f := s.Formula(); !sameFormula(f, over(2, api.Clause{1, 2})) {
		t.Errorf("a refused clause is kept: %v", f)
	}
	if bad := s.Add(long); bad != api.OK || !sameFormula(s.Formula(), over(2, api.Clause{1, 2}, long)) {
		t.Errorf("MaxClause literals: %v", bad)
	}
	if x := asked(t, s, []int{-1, 2}, -1); x.Kind != api.Unsat || !slices.Equal(x.Core, []int{-1, 2}) {
		t.Errorf("a clause of two literals MaxClause/2 times: %v", x)
	}
}

// TestLongClause: F6.1, F6.2: a clause of MaxClause unlike literals counts.
func TestLongClause(t *testing.T) {
	long := make(api.Clause, api.MaxClause)
	others := make([]int, api.MaxClause)
	for i := range long {
		long[i], others[i] = i+1, -i-1
	}
	s := made(t, over(api.MaxClause+1))
	if bad := s.Add(append(slices.Clone(long), api.MaxClause+1)); bad != api.ErrClause {
		t.Errorf("MaxClause + 1 literals: %v", bad)
	}
	if bad := s.Add(long); bad != api.OK {
		t.Fatalf("MaxClause literals: %v", bad)
	}
	if x := asked(t, s, others[1:], -1); x.Kind != api.Sat || x.Model[0] != 1 {
		t.Errorf("all false but the first: Kind %d", x.Kind)
	}
	if x := asked(t, s, others, -1); x.Kind != api.Unsat || !slices.Equal(x.Core, others) {
		t.Errorf("all false: Kind %d, a core of %d", x.Kind, len(x.Core))
	}
}

// TestMaxClauses: F6.1 at MaxClauses clauses and beyond; a wrong literal, and a clause that is too long, come first.
func TestMaxClauses(t *testing.T) {
	f := api.Formula{Vars: 3, Clauses: make([]api.Clause, api.MaxClauses-1)}
	for i := range f.Clauses {
		f.Clauses[i] = api.Clause{-1, 2}
	}
	s := made(t, f)
	if bad := s.Add(api.Clause{1}); bad != api.OK {
		t.Fatalf("the last clause: %v", bad)
	}
	for _, c := range []api.Clause{nil, {3}, {1, 2}} {
		if bad := s.Add(c); bad != api.ErrClauses {
			t.Errorf("one clause more, %v: %v", c, bad)
		}
	}
	if s.Add(api.Clause{4}) != api.ErrLit || s.Add(slices.Repeat(api.Clause{1}, api.MaxClause+1)) != api.ErrClause {
		t.Error("the order of errors")
	}
	if n := len(s.Formula().Clauses); n != api.MaxClauses {
		t.Errorf("%d clauses", n)
	}
	x, bad := s.Solve(nil, -1)
	if bad != api.OK || x.Kind != api.Sat || !slices.Equal(x.Model[:2], []int8{1, 1}) {
		t.Errorf("MaxClauses clauses: %v", x)
	}
	x, bad = s.Solve([]int{3, -2}, -1)
	if bad != api.OK || x.Kind != api.Unsat || !slices.Equal(x.Core, []int{-2}) {
		t.Errorf("MaxClauses clauses: %v", x)
	}
}

// TestMaxLits: F6.1 at MaxLits literals and beyond; the empty clause needs no room.
func TestMaxLits(t *testing.T) {
	long := slices.Repeat(api.Clause{1, 2}, api.MaxClause/2)
	f := over(3, long[1:])
	for len(f.Clauses) < api.MaxLits/api.MaxClause {
		f.Clauses = append(f.Clauses, long)
	}
	s := made(t, f)
	if bad := s.Add(api.Clause{3, 3}); bad != api.ErrClauses {
		t.Errorf("MaxLits + 1 literals: %v", bad)
	}
	if bad := s.Add(api.Clause{3}); bad != api.OK {
		t.Errorf("MaxLits literals: %v", bad)
	}
	if s.Add(api.Clause{3}) != api.ErrClauses || s.Add(api.Clause{4}) != api.ErrLit || s.Add(append(long, 1)) != api.ErrClause {
		t.Error("the order of errors")
	}
	if x, _ := s.Solve([]int{-2}, -1); x.Kind != api.Sat || !slices.Equal(x.Model, []int8{1, -1, 1}) {
		t.Errorf("MaxLits literals: Kind %d", x.Kind)
	}
	if bad := s.Add(nil); bad != api.OK || len(s.Formula().Clauses) != len(f.Clauses)+2 {
		t.Errorf("the empty clause: %v", bad)
	}
	if x, _ := s.Solve([]int{-2}, -1); x.Kind != api.Unsat || len(x.Core) != 0 {
		t.Errorf("with the empty clause: Kind %d", x.Kind)
	}
}

// TestFullAndHard: P601 where no clause more could be: what is learnt needs no room of the formula's.
func TestFullAndHard(t *testing.T) {
	f := pigeons(5)
	for len(f.Clauses) < api.MaxClauses {
		f.Clauses = append(f.Clauses, api.Clause{1, -1})
	}
	s := made(t, f)
	if x, bad := s.Solve([]int{2}, -1); x.Kind != api.Unsat || bad != api.OK {
		t.Errorf("Kind %d, %v", x.Kind, bad)
	}
}

// TestNil: a nil solver in every method; the errors of the arguments come later.
func TestNil(t *testing.T) {
	var s *Solver
	for _, c := range []api.Clause{nil, {1}, {0}, slices.Repeat(api.Clause{1}, api.MaxClause+1)} {
		if bad := s.Add(c); bad != api.ErrNil {
			t.Errorf("Add: %v", bad)
		}
	}
	for _, assume := range [][]int{nil, {1}, {0}, make([]int, api.MaxVars+1)} {
		for _, budget := range []int64{-1, 0, 1} {
			if x, bad := s.Solve(assume, budget); bad != api.ErrNil || !reflect.DeepEqual(x, api.Search{}) {
				t.Errorf("Solve: %v, %v", x, bad)
			}
		}
	}
	if f := s.Formula(); f.Vars != 0 || len(f.Clauses) != 0 {
		t.Errorf("Formula: %v", f)
	}
	if log := s.Log(); len(log) != 0 {
		t.Errorf("Log: %v", log)
	}
}

// TestRefused: a refused call changes nothing: a solver that gets wrong calls between the others answers as one that gets none.
func TestRefused(t *testing.T) {
	p := picker(5)
	long := slices.Repeat(api.Clause{1}, api.MaxClause+1)
	many := slices.Repeat([]int{1}, api.MaxVars+1)
	for range 150 {
		vars := 1 + p.below(20)
		f := p.three(vars+2, 4*vars)
		a, b := made(t, f), made(t, f)
		for range 6 {
			wrong := noLiterals(vars + 2)[p.below(13)]
			if b.Add(api.Clause{1, wrong}) != api.ErrLit || b.Add(long) != api.ErrClause {
				t.Fatal("Add is not refused")
			}
			x, bad := b.Solve([]int{-1, wrong}, 7)
			y, worse := b.Solve(many, 7)
			if bad != api.ErrLit || worse != api.ErrArg || !reflect.DeepEqual(x, api.Search{}) || !reflect.DeepEqual(y, api.Search{}) {
				t.Fatalf("Solve is not refused: %v %v, %v %v", x, bad, y, worse)
			}
			assume, budget := p.literals(vars, 3), int64(p.below(30)-1)
			wantSame(t, asked(t, a, assume, budget), asked(t, b, assume, budget))
			c := p.clause(vars)
			a.Add(c)
			b.Add(c)
			if !sameFormula(a.Formula(), b.Formula()) || !reflect.DeepEqual(a.Log(), b.Log()) {
				t.Fatal("a refused call has changed something")
			}
		}
	}
}

// wantSame: two searches are the same in all.
func wantSame(t testing.TB, a, b api.Search) {
	t.Helper()
	if !reflect.DeepEqual(a, b) {
		t.Fatalf("%v\nis not %v", a, b)
	}
}

// TestHandedIn: nothing that is handed in is changed, its spare room neither.
func TestHandedIn(t *testing.T) {
	p := picker(7)
	for range 400 {
		vars := 2 + p.below(12)
		f, c, assume, want := roomyFormula(p.formula(vars, 6*vars)), roomy(p.clause(vars)), roomy(p.literals(vars, 4)), roomy(p.wants(vars))
		ahead := fmt.Sprint(shown(f, c), shown(f, assume), shown(f, want))
		s := made(t, f)
		asked(t, s, assume, -1)
		s.Add(c)
		asked(t, s, assume, -1)
		Least(f, want, -1)
		s.Log()
		if behind := fmt.Sprint(shown(f, c), shown(f, assume), shown(f, want)); behind != ahead {
			t.Fatalf("%s\nis %s now", ahead, behind)
		}
	}
}

// TestNotKept: what was handed in may be written over: the solver has its own.
func TestNotKept(t *testing.T) {
	p := picker(11)
	for range 300 {
		vars := 2 + p.below(14)
		f := p.formula(vars, 5*vars)
		own := roomyFormula(f)
		a, b := made(t, f), made(t, own)
		scribble(own, nil)
		for range 5 {
			c, assume := p.clause(vars), p.literals(vars, 4)
			mine, mineToo := roomy(c), roomy(assume)
			a.Add(c)
			b.Add(mine)
			fill(mine, 1)
			x, y := asked(t, a, assume, 9), asked(t, b, mineToo, 9)
			fill(mineToo, 1)
			wantSame(t, x, y)
		}
		if !sameFormula(a.Formula(), b.Formula()) || !reflect.DeepEqual(a.Log(), b.Log()) {
			t.Fatal("what was handed in is kept")
		}
	}
}

// TestHandedOut: what is handed out is the caller's: written over and grown it changes nothing, in the solver and in other answers.
func TestHandedOut(t *testing.T) {
	p := picker(13)
	for range 300 {
		vars := 2 + p.below(14)
		f := p.three(vars+2, 5*vars)
		a, b := made(t, f), made(t, f)
		for range 5 {
			assume := p.literals(vars, 4)
			x, y := asked(t, a, assume, -1), asked(t, b, assume, -1)
			wantSame(t, x, y)
			scribble(b.Formula(), b.Log())
			fill(y.Model, 5)
			fill(y.Core, 5)
			eachAlone(t, y.Proof, b.Formula())
			scribble(api.Formula{}, y.Proof)
			if !sameFormula(a.Formula(), b.Formula()) || !reflect.DeepEqual(a.Log(), b.Log()) {
				t.Fatal("an answer shares memory with the solver")
			}
			c := p.clause(vars)
			a.Add(c)
			b.Add(c)
		}
	}
}

// eachAlone: no two lists of an answer share memory: what is put behind one, or written into it, shows in no other.
func eachAlone(t *testing.T, p []api.Step, f api.Formula) {
	t.Helper()
	lists := slices.Clone(f.Clauses)
	for _, s := range p {
		lists = append(lists, s.Clause)
	}
	for i, c := range lists {
		fill(c, 1000+i)
	}
	for i, c := range lists {
		if slices.ContainsFunc(c[:cap(c)], func(l int) bool { return l != 1000+i }) {
			t.Fatal("two lists share memory")
		}
	}
}

// TestTwoSolvers: two solvers share nothing, and the same calls have the same answers, whatever is done beside them.
func TestTwoSolvers(t *testing.T) {
	p := picker(17)
	for range 100 {
		vars := 5 + p.below(20)
		f, g := p.three(vars, 4*vars), p.three(vars, 5*vars)
		a, b, other := made(t, f), made(t, f), made(t, g)
		for range 5 {
			assume, budget := p.literals(vars, 3), int64(p.below(50)-1)
			x := asked(t, a, assume, budget)
			other.Solve(p.literals(vars, 3), -1)
			other.Add(p.clause(vars))
			wantSame(t, x, asked(t, b, assume, budget))
		}
		if !reflect.DeepEqual(a.Log(), b.Log()) {
			t.Fatal("the logs are not the same")
		}
	}
}
