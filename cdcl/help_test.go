package cdcl

import (
	"fmt"
	"math"
	"slices"
	"testing"

	"cadence/api"
	"cadence/rup"
)

// picker tells numbers that look like chance, the same ones in each run.
type picker uint64

func (p *picker) below(n int) int {
	*p ^= *p << 13
	*p ^= *p >> 7
	*p ^= *p << 17
	return int(uint64(*p>>11) % uint64(n))
}

func (p *picker) literal(vars int) int {
	if p.below(2) == 0 {
		return -1 - p.below(vars)
	}
	return 1 + p.below(vars)
}

// literals: at most so many; some may stand twice, or with their opposites.
func (p *picker) literals(vars, most int) []int {
	var out []int
	for range p.below(most + 1) {
		if vars > 0 {
			out = append(out, p.literal(vars))
		}
	}
	return out
}

// clause: mostly of 2 or 3 literals.
func (p *picker) clause(vars int) api.Clause {
	length := 2 + p.below(2)
	switch p.below(60) {
	case 0:
		length = 0
	case 1, 2, 3:
		length = 1
	case 4, 5, 6, 7, 8:
		length = 4 + p.below(3)
	}
	var c api.Clause
	for range length {
		if vars > 0 {
			c = append(c, p.literal(vars))
		}
	}
	return c
}

// formula: of at most so many clauses.
func (p *picker) formula(vars, clauses int) api.Formula {
	f := api.Formula{Vars: vars}
	for range p.below(clauses + 1) {
		f.Clauses = append(f.Clauses, p.clause(vars))
	}
	return f
}

// three: a formula of clauses with three unlike variables; with 4 or 5 times as many clauses as variables few are easy.
func (p *picker) three(vars, clauses int) api.Formula {
	f := api.Formula{Vars: vars}
	for len(f.Clauses) < clauses {
		c := api.Clause{p.literal(vars), p.literal(vars), p.literal(vars)}
		if abs(c[0]) != abs(c[1]) && abs(c[0]) != abs(c[2]) && abs(c[1]) != abs(c[2]) {
			f.Clauses = append(f.Clauses, c)
		}
	}
	return f
}

// wants: literals of some of the variables, none twice, in any order.
func (p *picker) wants(vars int) []int {
	all := make([]int, vars)
	for i := range all {
		all[i] = i + 1
		if p.below(2) == 0 {
			all[i] = -all[i]
		}
	}
	for i := range all {
		k := i + p.below(vars-i)
		all[i], all[k] = all[k], all[i]
	}
	return all[:p.below(vars+1)]
}

func abs(l int) int { return max(l, -l) }

// over: a formula of clauses that are written out.
func over(vars int, clauses ...api.Clause) api.Formula {
	return api.Formula{Vars: vars, Clauses: clauses}
}

// three: the first three clauses of four.
func three() api.Formula {
	return over(2, api.Clause{1, 2}, api.Clause{-1, 2}, api.Clause{1, -2})
}

// four: all clauses of two variables: it can not be.
func four() api.Formula {
	return over(2, api.Clause{1, 2}, api.Clause{-1, 2}, api.Clause{1, -2}, api.Clause{-1, -2})
}

// pigeons: one more pigeon than holes, each in a hole, no two in one: it can not be.
func pigeons(holes int) api.Formula {
	f := api.Formula{Vars: (holes + 1) * holes}
	in := func(pigeon, hole int) int { return pigeon*holes + hole + 1 }
	for p := range holes + 1 {
		var somewhere api.Clause
		for h := range holes {
			somewhere = append(somewhere, in(p, h))
			for q := range p {
				f.Clauses = append(f.Clauses, api.Clause{-in(p, h), -in(q, h)})
			}
		}
		f.Clauses = append(f.Clauses, somewhere)
	}
	return f
}

// guarded: the formula with one more variable, its last one, under which alone its clauses hold.
func guarded(f api.Formula) api.Formula {
	g := api.Formula{Vars: f.Vars + 1}
	for _, c := range f.Clauses {
		g.Clauses = append(g.Clauses, append(slices.Clone(c), -g.Vars))
	}
	return g
}

// with: the formula, and behind it a clause of each literal.
func with(f api.Formula, units []int) api.Formula {
	g := api.Formula{Vars: f.Vars, Clauses: slices.Clone(f.Clauses)}
	for _, l := range units {
		g.Clauses = append(g.Clauses, api.Clause{l})
	}
	return g
}

// clausesOver: all clauses over so many variables in which none stands twice.
func clausesOver(vars int) []api.Clause {
	all := []api.Clause{{}}
	for v := 1; v <= vars; v++ {
		for _, c := range slices.Clone(all) {
			all = append(all, append(slices.Clone(c), v), append(slices.Clone(c), -v))
		}
	}
	return all
}

// formulasOverTwo: all sets of clauses over two variables.
func formulasOverTwo() []api.Formula {
	clauses := clausesOver(2)
	var all []api.Formula
	for set := range 1 << len(clauses) {
		f := api.Formula{Vars: 2}
		for i, c := range clauses {
			if set>>i&1 == 1 {
				f.Clauses = append(f.Clauses, c)
			}
		}
		all = append(all, f)
	}
	return all
}

// noLiterals: numbers that are no literals of so many variables.
func noLiterals(vars int) []int {
	return []int{0, vars + 1, -vars - 1, api.MaxVars + 1, -api.MaxVars - 1, math.MaxInt, math.MinInt, math.MinInt + 1, math.MaxInt32, math.MinInt32, 1 << 32, 1<<32 + 1, -1<<32 - 1}
}

// wrongFormulas: of each error of cnf.Check one.
func wrongFormulas() map[api.Errno]api.Formula {
	return map[api.Errno]api.Formula{
		api.ErrVars:    over(-1),
		api.ErrLit:     over(2, api.Clause{5}),
		api.ErrClause:  over(1, slices.Repeat(api.Clause{1}, api.MaxClause+1)),
		api.ErrClauses: {Vars: 1, Clauses: make([]api.Clause, api.MaxClauses+1)},
	}
}

// isTrue: does a model make a literal true?
func isTrue(m []int8, l int) bool {
	if l < 0 {
		return m[-l-1] == -1
	}
	return m[l-1] == 1
}

// fits: does a model make all clauses true?
func fits(f api.Formula, m []int8) bool {
	for _, c := range f.Clauses {
		if !slices.ContainsFunc(c, func(l int) bool { return isTrue(m, l) }) {
			return false
		}
	}
	return true
}

// models: all assignments that make all clauses true, by trying.
func models(f api.Formula) [][]int8 {
	var out [][]int8
	for bits := range 1 << f.Vars {
		m := make([]int8, f.Vars)
		for i := range m {
			m[i] = int8(bits>>i&1)*2 - 1
		}
		if fits(f, m) {
			out = append(out, m)
		}
	}
	return out
}

// made: a solver of a formula that may be.
func made(t testing.TB, f api.Formula) *Solver {
	t.Helper()
	s, bad := New(f)
	if bad != api.OK || s == nil {
		t.Fatalf("New: %v", bad)
	}
	return s
}

// asked: what Solve answers, if it is what F6.2 says of its Kind.
func asked(t testing.TB, s *Solver, assume []int, budget int64) api.Search {
	t.Helper()
	x, bad := s.Solve(assume, budget)
	if bad != api.OK {
		t.Fatalf("Solve(%v, %d): %v", assume, budget, bad)
	}
	rightSearch(t, s.Formula(), assume, budget, x)
	return x
}

// rightSearch: an answer is what F6.2 says of its Kind; and rup.Check accepts its proof.
func rightSearch(t testing.TB, f api.Formula, assume []int, budget int64, x api.Search) {
	t.Helper()
	rightCounts(t, budget, x)
	switch x.Kind {
	case api.Sat:
		rightModel(t, with(f, assume), x.Model)
	case api.Unsat:
		rightCore(t, assume, x.Core)
		rightProof(t, with(f, x.Core), x.Proof)
	}
	if x.Kind != api.Sat && x.Model != nil || x.Kind != api.Unsat && (x.Proof != nil || x.Core != nil) {
		t.Fatalf("Kind %d with a model %v, a core %v, a proof %v", x.Kind, x.Model, x.Core, x.Proof)
	}
}

// rightCounts: a Kind that there is, within the budget.
func rightCounts(t testing.TB, budget int64, x api.Search) {
	t.Helper()
	switch {
	case x.Kind != api.Sat && x.Kind != api.Unsat && x.Kind != api.Spent:
		t.Fatalf("Kind %d", x.Kind)
	case x.Conflicts < 0 || x.Decisions < 0 || budget >= 0 && x.Conflicts > budget:
		t.Fatalf("%d conflicts, %d decisions with a budget of %d", x.Conflicts, x.Decisions, budget)
	case x.Kind == api.Spent && x.Conflicts != budget:
		t.Fatalf("spent at %d conflicts with a budget of %d", x.Conflicts, budget)
	}
}

// rightModel: 1 or -1 of each variable, and all clauses are true.
func rightModel(t testing.TB, f api.Formula, m []int8) {
	t.Helper()
	if len(m) != f.Vars || slices.ContainsFunc(m, func(x int8) bool { return x != 1 && x != -1 }) || !fits(f, m) {
		t.Fatalf("%v is no model", m)
	}
}

// rightCore: some of the assumptions in their order, none twice.
func rightCore(t testing.TB, assume, core []int) {
	t.Helper()
	left := assume
	for i, l := range core {
		at := slices.Index(left, l)
		if at < 0 || slices.Contains(core[:i], l) {
			t.Fatalf("the core %v of the assumptions %v", core, assume)
		}
		left = left[at+1:]
	}
}

// rightProof: rup accepts it, but where that goes beyond its limits.
func rightProof(t testing.TB, f api.Formula, p []api.Step) {
	t.Helper()
	if n, bad := rup.Check(f, p); bad != api.OK {
		t.Fatalf("the step %d of %d: %v", n, len(p), bad)
	}
}

// rightLog: F6.3.
func rightLog(t testing.TB, s *Solver) {
	t.Helper()
	log := s.Log()
	if n, bad := rup.Check(s.Formula(), log); bad != api.OK && (bad != api.ErrProof || n != len(log)) {
		t.Fatalf("the step %d of the log's %d: %v", n, len(log), bad)
	}
}

// sameFormula: the same clauses, as they stand.
func sameFormula(a, b api.Formula) bool {
	return a.Vars == b.Vars && slices.EqualFunc(a.Clauses, b.Clauses, slices.Equal)
}

// shown: all of it as a text, spare room too.
func shown(f api.Formula, lits []int) string {
	var rows []api.Clause
	for _, c := range f.Clauses[:cap(f.Clauses)] {
		rows = append(rows, c[:cap(c)])
	}
	return fmt.Sprint(f.Vars, len(f.Clauses), rows, len(lits), lits[:cap(lits)])
}

// roomy: the same literals in new memory, with spare room that is not 0.
func roomy[C ~[]int](c C) C { return append(append(make(C, 0, len(c)+3), c...), 77, 78, 79)[:len(c)] }

// roomyFormula: likewise, with spare clauses.
func roomyFormula(f api.Formula) api.Formula {
	g := api.Formula{Vars: f.Vars, Clauses: make([]api.Clause, 0, len(f.Clauses)+2)}
	for _, c := range f.Clauses {
		g.Clauses = append(g.Clauses, roomy(c))
	}
	return api.Formula{Vars: f.Vars, Clauses: append(g.Clauses, api.Clause{99}, api.Clause{98})[:len(f.Clauses)]}
}

// fill: writes over a list and its spare room.
func fill[T any](list []T, value T) {
	list = list[:cap(list)]
	for i := range list {
		list[i] = value
	}
}

// scribble: writes over all that a formula, or steps, have.
func scribble(f api.Formula, p []api.Step) {
	for _, c := range f.Clauses {
		fill(c, -1)
	}
	fill(f.Clauses, api.Clause{1})
	for _, s := range p {
		fill(s.Clause, -1)
	}
	fill(p, api.Step{Drop: true})
}
