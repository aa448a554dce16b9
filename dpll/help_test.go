package dpll

import (
	"fmt"
	"math"
	"slices"
	"testing"

	"cadence/api"
)

// picker tells numbers that look like chance, the same ones in each run.
type picker uint64

func (p *picker) below(n int) int {
	*p ^= *p << 13
	*p ^= *p >> 7
	*p ^= *p << 17
	return int(uint64(*p>>11) % uint64(n))
}

func (p *picker) literal(vars int) int {
	if p.below(2) == 0 {
		return -1 - p.below(vars)
	}
	return 1 + p.below(vars)
}

// formula: of at most so many clauses; literals may stand twice in one, or with their opposites, and now and then a clause has none.
func (p *picker) formula(vars, clauses int) api.Formula {
	f := api.Formula{Vars: vars}
	for range p.below(clauses + 1) {
		var c api.Clause
		for range p.length() {
			if vars > 0 {
				c = append(c, p.literal(vars))
			}
		}
		f.Clauses = append(f.Clauses, c)
	}
	return f
}

// length: of a clause; mostly 2 or 3.
func (p *picker) length() int {
	switch p.below(40) {
	case 0:
		return 0
	case 1, 2, 3:
		return 1
	case 4, 5, 6:
		return 4 + p.below(3)
	}
	return 2 + p.below(2)
}

// first: some of the variables, in any order.
func (p *picker) first(vars int) []int {
	all := make([]int, vars)
	for i := range all {
		all[i] = i + 1
	}
	for i := range all {
		k := i + p.below(vars-i)
		all[i], all[k] = all[k], all[i]
	}
	return all[:p.below(vars+1)]
}

// over: a formula of clauses that are written out.
func over(vars int, clauses ...api.Clause) api.Formula {
	return api.Formula{Vars: vars, Clauses: clauses}
}

// pigeons: one more pigeon than holes, each in a hole, no two in one: it can not be.
func pigeons(holes int) api.Formula {
	f := api.Formula{Vars: (holes + 1) * holes}
	in := func(pigeon, hole int) int { return pigeon*holes + hole + 1 }
	for p := range holes + 1 {
		var somewhere api.Clause
		for h := range holes {
			somewhere = append(somewhere, in(p, h))
			for q := range p {
				f.Clauses = append(f.Clauses, api.Clause{-in(p, h), -in(q, h)})
			}
		}
		f.Clauses = append(f.Clauses, somewhere)
	}
	return f
}

// plain is a search in the words of the chapter: all clauses are gone through for everything, and a decision's two sides are two calls.
type plain struct {
	f      api.Formula
	first  []int
	most   int
	budget int64

	models    [][]int8
	proof     []api.Step
	decisions int64
	conflicts int64
	kind      int
}

func (p *plain) literal(values []int8, l int) int8 {
	if l < 0 {
		return -values[-l-1]
	}
	return values[l-1]
}

// unit: the literal for which a clause is a unit, or 0; and whether the clause is false.
func (p *plain) unit(values []int8, c api.Clause) (int, bool) {
	left := 0
	for _, l := range c {
		switch {
		case p.literal(values, l) > 0, p.literal(values, l) == 0 && left != 0 && left != l:
			return 0, false
		case p.literal(values, l) == 0:
			left = l
		}
	}
	return left, left == 0
}

// closed: the values with all that follows; false: a conflict.
func (p *plain) closed(values []int8) ([]int8, bool) {
	values = slices.Clone(values)
	for again := true; again; {
		again = false
		for _, c := range p.f.Clauses {
			l, bad := p.unit(values, c)
			if bad {
				return values, false
			}
			if l > 0 {
				values[l-1], again = 1, true
			} else if l < 0 {
				values[-l-1], again = -1, true
			}
		}
	}
	return values, true
}

func (p *plain) choose(values []int8) int {
	for _, v := range p.first {
		if values[v-1] == 0 {
			return v
		}
	}
	return slices.Index(values, 0) + 1
}

// under: goes through all that is left under some values; false, if the search is over.
func (p *plain) under(values []int8, open []int) bool {
	values, fine := p.closed(values)
	if !fine {
		p.conflicts++
		step := api.Step{Clause: append(api.Clause{}, open...)}
		slices.Sort(step.Clause)
		p.proof = append(p.proof, step)
		return true
	}
	v := p.choose(values)
	if v == 0 {
		p.models = append(p.models, values)
		p.kind = api.Sat
		return len(p.models) < p.most
	}
	if p.budget >= 0 && p.decisions == p.budget {
		p.kind = api.Spent
		return false
	}
	p.decisions++
	values[v-1] = -1
	if !p.under(values, append(slices.Clone(open), v)) {
		return false
	}
	values[v-1] = 1
	return p.under(values, open)
}

// search: from the beginning.
func (p *plain) search() api.Search {
	if p.under(make([]int8, p.f.Vars), nil) {
		p.kind = api.Unsat
	}
	return api.Search{Kind: p.kind, Decisions: p.decisions, Conflicts: p.conflicts}
}

// plainOne: what Least must answer, and Solve of an empty list.
func plainOne(f api.Formula, first []int, budget int64) api.Search {
	p := &plain{f: f, first: first, most: 1, budget: budget}
	s := p.search()
	switch s.Kind {
	case api.Sat:
		s.Model = p.models[0]
	case api.Unsat:
		s.Proof = p.proof
	}
	return s
}

// plainAll: what Models must answer.
func plainAll(f api.Formula, most int, budget int64) ([][]int8, api.Search) {
	p := &plain{f: f, most: most, budget: budget}
	s := p.search()
	return p.models, s
}

func sameModels(a, b [][]int8) bool { return slices.EqualFunc(a, b, slices.Equal) }

func sameProofs(a, b []api.Step) bool {
	return slices.EqualFunc(a, b, func(x, y api.Step) bool {
		return x.Drop == y.Drop && slices.Equal(x.Clause, y.Clause)
	})
}

func sameSearch(a, b api.Search) bool {
	return a.Kind == b.Kind && slices.Equal(a.Model, b.Model) && sameProofs(a.Proof, b.Proof) && a.Core == nil && b.Core == nil &&
		a.Decisions == b.Decisions && a.Conflicts == b.Conflicts
}

// want: a search that is answered without an error.
func want(t *testing.T, what string, got api.Search, bad api.Errno, right api.Search) {
	t.Helper()
	if bad != api.OK || !sameSearch(got, right) {
		t.Fatalf("%s: %+v, %v, not %+v", what, got, bad, right)
	}
}

// wantAll: models that are answered without an error.
func wantAll(t *testing.T, what string, got [][]int8, s api.Search, bad api.Errno, models [][]int8, right api.Search) {
	t.Helper()
	want(t, what, s, bad, right)
	if !sameModels(got, models) {
		t.Fatalf("%s: %v, not %v", what, got, models)
	}
}

// assignments: all of so many variables, rising as P403 says.
func assignments(vars int) [][]int8 {
	var all [][]int8
	for n := range 1 << vars {
		m := make([]int8, vars)
		for i := range m {
			m[i] = int8(n>>(vars-1-i)&1)*2 - 1
		}
		all = append(all, m)
	}
	return all
}

// fits: does an assignment make all clauses true?
func fits(f api.Formula, m []int8) bool {
	for _, c := range f.Clauses {
		if !slices.ContainsFunc(c, func(l int) bool { return l > 0 && m[l-1] == 1 || l < 0 && m[-l-1] == -1 }) {
			return false
		}
	}
	return true
}

// allModels: by trying all assignments.
func allModels(f api.Formula) [][]int8 {
	return slices.DeleteFunc(assignments(f.Vars), func(m []int8) bool { return !fits(f, m) })
}

// clausesOver: all set clauses over so many variables that are not twofold.
func clausesOver(vars int) []api.Clause {
	all := []api.Clause{{}}
	for v := 1; v <= vars; v++ {
		for _, c := range slices.Clone(all) {
			all = append(all, append(slices.Clone(c), v), append(slices.Clone(c), -v))
		}
	}
	return all
}

// formulasOverTwo: all sets of clauses over two variables.
func formulasOverTwo() []api.Formula {
	clauses := clausesOver(2)
	var all []api.Formula
	for set := range 1 << len(clauses) {
		f := api.Formula{Vars: 2}
		for i, c := range clauses {
			if set>>i&1 == 1 {
				f.Clauses = append(f.Clauses, c)
			}
		}
		all = append(all, f)
	}
	return all
}

// noBudgets: numbers that stand for no bound, and the greatest bound, which no search comes to.
var noBudgets = []int64{-1, -2, math.MinInt64, math.MaxInt64}

// roomy: a copy of a formula whose lists have spare room that is written in, so that a change can be seen.
func roomy(f api.Formula) api.Formula {
	g := api.Formula{Vars: f.Vars, Clauses: make([]api.Clause, len(f.Clauses), len(f.Clauses)+2)}
	for i, c := range f.Clauses {
		g.Clauses[i] = append(append(make(api.Clause, 0, len(c)+2), c...), 77, 78)[:len(c)]
	}
	spare := g.Clauses[:cap(g.Clauses)]
	spare[len(f.Clauses)] = api.Clause{79}
	spare[len(f.Clauses)+1] = api.Clause{80}
	return g
}

// shown: a formula with its spare room, as a text.
func shown(f api.Formula) string {
	text := fmt.Sprintln(f.Vars, len(f.Clauses), cap(f.Clauses))
	for _, c := range f.Clauses[:cap(f.Clauses)] {
		text += fmt.Sprintln(len(c), c[:cap(c)])
	}
	return text
}
