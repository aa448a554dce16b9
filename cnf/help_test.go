package cnf

import (
	"math"
	"slices"
	"testing"

	"cadence/api"
)

// picker tells numbers that look like chance, the same ones in each run.
type picker uint64

func (p *picker) below(n int) int {
	*p ^= *p << 13
	*p ^= *p >> 7
	*p ^= *p << 17
	return int(uint64(*p>>11) % uint64(n))
}

func (p *picker) literal(vars int) int {
	if p.below(2) == 0 {
		return -1 - p.below(vars)
	}
	return 1 + p.below(vars)
}

func (p *picker) clause(vars, most int) api.Clause {
	c := api.Clause{}
	if vars > 0 {
		for range p.below(most + 1) {
			c = append(c, p.literal(vars))
		}
	}
	return c
}

func (p *picker) formula(vars, clauses, most int) api.Formula {
	f := api.Formula{Vars: vars}
	for range p.below(clauses + 1) {
		f.Clauses = append(f.Clauses, p.clause(vars, most))
	}
	return f
}

// noLiterals: numbers beside the literals.
var noLiterals = []int{0, api.MaxVars + 1, -api.MaxVars - 1, math.MaxInt, math.MinInt, math.MinInt + 1, math.MaxInt32, math.MinInt32}

func formula(vars int, clauses ...api.Clause) api.Formula {
	return api.Formula{Vars: vars, Clauses: clauses}
}

func span(first, last int) api.Clause {
	c := api.Clause{}
	for l := first; l <= last; l++ {
		c = append(c, l)
	}
	return c
}

func sameClause(a, b api.Clause) bool { return slices.Equal(a, b) }

func sameFormula(a, b api.Formula) bool {
	return a.Vars == b.Vars && slices.EqualFunc(a.Clauses, b.Clauses, sameClause)
}

func isZero(f api.Formula) bool { return f.Vars == 0 && len(f.Clauses) == 0 }

// assignments: all of the variables 1 to vars, each with a number of values.
func assignments(vars int, values ...int8) [][]int8 {
	all := [][]int8{{}}
	for range vars {
		var longer [][]int8
		for _, m := range all {
			for _, x := range values {
				longer = append(longer, append(slices.Clone(m), x))
			}
		}
		all = longer
	}
	return all
}

// plainOf, plainValue: of a literal and a clause, as the words of the chapter say it.
func plainOf(m []int8, l int) int {
	if l == 0 || l > api.MaxVars || l < -api.MaxVars {
		return 0
	}
	for k, x := range m {
		switch {
		case (x == 1 || x == -1) && l == k+1:
			return int(x)
		case (x == 1 || x == -1) && l == -k-1:
			return -int(x)
		}
	}
	return 0
}

func plainValue(c api.Clause, m []int8) int {
	falses := 0
	for _, l := range c {
		switch plainOf(m, l) {
		case 1:
			return 1
		case -1:
			falses++
		}
	}
	if falses == len(c) {
		return -1
	}
	return 0
}

func plainFormula(f api.Formula, m []int8) int {
	value := 1
	for _, c := range f.Clauses {
		value = min(value, plainValue(c, m))
	}
	return value
}

// plainSet: of literals over few variables.
func plainSet(c api.Clause, vars int) (api.Clause, bool) {
	set, both := api.Clause{}, false
	for v := 1; v <= vars; v++ {
		if slices.Contains(c, v) {
			set = append(set, v)
		}
		if slices.Contains(c, -v) {
			set = append(set, -v)
			both = both || slices.Contains(c, v)
		}
	}
	return set, both
}

func plainTidy(f api.Formula) api.Formula {
	out := api.Formula{Vars: f.Vars}
	for _, c := range f.Clauses {
		set, both := plainSet(c, f.Vars)
		like := func(o api.Clause) bool { return slices.Equal(o, set) }
		if !both && !slices.ContainsFunc(out.Clauses, like) {
			out.Clauses = append(out.Clauses, set)
		}
	}
	return out
}

// roomy: the same clause with spare room, which is filled.
func roomy(c api.Clause) api.Clause {
	full := append(slices.Clone(c), 77, 78, 79)
	return full[: len(c) : len(c)+3]
}

func roomyFormula(f api.Formula) api.Formula {
	var full []api.Clause
	for _, c := range f.Clauses {
		full = append(full, roomy(c))
	}
	full = append(full, api.Clause{77}, api.Clause{78})
	return api.Formula{Vars: f.Vars, Clauses: full[: len(full)-2 : len(full)]}
}

// wholeFormula: all that is there, spare room too.
func wholeFormula(f api.Formula) []api.Clause {
	var all []api.Clause
	for _, c := range f.Clauses[:cap(f.Clauses)] {
		all = append(all, slices.Clone(c[:cap(c)]))
	}
	return all
}

func scribble(c api.Clause) {
	for k := range c[:cap(c)] {
		c[:cap(c)][k] = -99
	}
}

func scribbleFormula(f api.Formula) {
	for k, c := range f.Clauses[:cap(f.Clauses)] {
		scribble(c)
		f.Clauses[:cap(f.Clauses)][k] = api.Clause{-98}
	}
}

// checkApart: each list of an answer can be written over its whole room without a change in another one.
func checkApart(t *testing.T, what string, f api.Formula) {
	t.Helper()
	for k, c := range f.Clauses {
		before := make([]api.Clause, len(f.Clauses))
		for i, other := range f.Clauses {
			before[i] = slices.Clone(other)
		}
		scribble(c)
		for i, other := range f.Clauses {
			if i != k && !sameClause(other, before[i]) {
				t.Fatalf("%s: clauses %d and %d share memory", what, k, i)
			}
		}
	}
}
