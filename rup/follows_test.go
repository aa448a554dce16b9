package rup

import (
	"fmt"
	"slices"
	"testing"

	"cadence/api"
)

func TestFollows(t *testing.T) {
	chain := over(4, api.Clause{-1, 2}, api.Clause{-2, 3}, api.Clause{-3, 4})
	for _, c := range []struct {
		name string
		f    api.Formula
		c    api.Clause
		want bool
	}{
		{"the example", four(), api.Clause{1}, true},
		{"the example, the other one", four(), api.Clause{-2}, true},
		{"the empty clause, which does not follow by units", four(), nil, false},
		{"a wider clause", four(), api.Clause{2, 1}, true},
		{"no variables", over(0), nil, false},
		{"no variables, the empty clause", over(0, nil), nil, true},
		{"no clauses", over(2), api.Clause{1}, false},
		{"no clauses, both ways", over(2), api.Clause{1, -1}, true},
		{"no clauses, both ways and another", over(2), api.Clause{-1, 2, 1}, true},
		{"no clauses, a literal twice", over(2), api.Clause{2, 2}, false},
		{"the empty clause is there", over(2, api.Clause{}), api.Clause{1}, true},
		{"the empty clause is there, of the empty one", over(2, api.Clause{1}, nil), nil, true},
		{"units that fight", over(1, api.Clause{1}, api.Clause{-1}), nil, true},
		{"units that fight, of a clause", over(2, api.Clause{1}, api.Clause{-1}), api.Clause{2}, true},
		{"a unit", over(2, api.Clause{1}), api.Clause{1}, true},
		{"a unit's opposite", over(2, api.Clause{1}), api.Clause{-1}, false},
		{"a unit in a wider clause, last", over(2, api.Clause{1}), api.Clause{-2, 1}, true},
		{"a unit and an opposite", over(3, api.Clause{1}, api.Clause{-1, 2, 3}), api.Clause{-1, 3, 2}, true},
		{"a unit's opposite alone", over(3, api.Clause{1}, api.Clause{-1, 2, 3}), api.Clause{-1, 3}, false},
		{"a chain", chain, api.Clause{-1, 4}, true},
		{"a chain backward", chain, api.Clause{4, -1}, true},
		{"a chain, no end", chain, api.Clause{1, 4}, false},
		{"a clause with a literal twice", over(2, api.Clause{1, 1, 2}), api.Clause{2, 1, 2}, true},
		{"a clause with a literal twice is a unit", over(2, api.Clause{1, 1}), api.Clause{1}, true},
		{"a clause both ways says nothing", over(2, api.Clause{1, -1}, api.Clause{-2, 2, 1}), api.Clause{1}, false},
		{"a subset", over(3, api.Clause{1, 2, 3}), api.Clause{1, 2}, false},
		{"true, but not by units", over(3, api.Clause{1, 2, 3}, api.Clause{1, 2, -3}, api.Clause{1, -2, 3}, api.Clause{1, -2, -3}), api.Clause{1}, false},
	} {
		if got, bad := Follows(c.f, c.c); got != c.want || bad != api.OK {
			t.Errorf("%s: %v, %v", c.name, got, bad)
		}
	}
}

func TestFollowsErrors(t *testing.T) {
	for _, vars := range []int{0, 1, 2, 5} {
		for _, l := range noLiterals(vars) {
			clauses := []api.Clause{{l}, append(repeated(1, 3), l)}
			if vars > 0 {
				clauses = append(clauses, api.Clause{1, -1, l}, api.Clause{l, 1})
			}
			for _, c := range clauses {
				for _, f := range []api.Formula{over(vars), over(vars, nil)} {
					if got, bad := Follows(f, c); got || bad != api.ErrLit {
						t.Errorf("%v of %v: %v, %v", c, f, got, bad)
					}
				}
			}
		}
	}
	for _, c := range wrongFormulas() {
		for _, d := range []api.Clause{nil, {1}, {0}, {1, -1}} {
			if got, bad := Follows(c.f, d); got || bad != c.want {
				t.Errorf("%s, %v: %v, %v, not %v", c.name, d, got, bad, c.want)
			}
		}
	}
}

type wrongFormula struct {
	name string
	f    api.Formula
	want api.Errno
}

// wrongFormulas: formulas that may not be.
func wrongFormulas() []wrongFormula {
	lits := over(1)
	for range api.MaxLits / api.MaxClause {
		lits.Clauses = append(lits.Clauses, repeated(1, api.MaxClause))
	}
	lits.Clauses = append(lits.Clauses, api.Clause{1})
	out := []wrongFormula{
		{"variables below 0", over(-1), api.ErrVars},
		{"too many variables", over(api.MaxVars+1, nil), api.ErrVars},
		{"too many clauses", over(1, make([]api.Clause, api.MaxClauses+1)...), api.ErrClauses},
		{"a clause that is too long", over(1, nil, repeated(1, api.MaxClause+1)), api.ErrClause},
		{"too many literals", lits, api.ErrClauses},
	}
	for _, l := range noLiterals(2) {
		out = append(out, wrongFormula{fmt.Sprint("the literal ", l), over(2, nil, api.Clause{1, l}), api.ErrLit})
	}
	return out
}

// TestFollowsLong: the clause that is asked for has no limit.
func TestFollowsLong(t *testing.T) {
	for _, n := range []int{api.MaxClause, api.MaxClause + 1, 3 * api.MaxClause} {
		f := over(3, api.Clause{-2, 3}, api.Clause{-3, -2, 1})
		if got, bad := Follows(f, append(repeated(1, n), -2)); !got || bad != api.OK {
			t.Errorf("%d literals: %v, %v", n, got, bad)
		}
		if got, bad := Follows(f, append(repeated(1, n), 2)); got || bad != api.OK {
			t.Errorf("%d literals, wrong: %v, %v", n, got, bad)
		}
		if got, bad := Follows(f, append(repeated(1, n), 4)); got || bad != api.ErrLit {
			t.Errorf("%d literals, a variable too much: %v, %v", n, got, bad)
		}
	}
	all := make(api.Clause, api.MaxVars)
	for i := range all {
		all[i] = i + 1
	}
	f := over(api.MaxVars, api.Clause{api.MaxVars, 1})
	if got, bad := Follows(f, all); !got || bad != api.OK {
		t.Errorf("all variables: %v, %v", got, bad)
	}
	if got, bad := Follows(f, all[1:]); got || bad != api.OK {
		t.Errorf("all variables but one: %v, %v", got, bad)
	}
}

// TestFollowsFull: formulas at the limits leave no room for clauses of the opposites: none is needed.
func TestFollowsFull(t *testing.T) {
	f := over(api.MaxVars)
	for v := 1; v < api.MaxVars; v++ {
		f.Clauses = append(f.Clauses, api.Clause{-v, v + 1})
	}
	f.Clauses = append(f.Clauses, api.Clause{3, -3})
	if got, bad := Follows(f, api.Clause{api.MaxVars, -1}); !got || bad != api.OK {
		t.Errorf("a chain of MaxClauses clauses: %v, %v", got, bad)
	}
	if got, bad := Follows(f, api.Clause{-api.MaxVars, -1}); got || bad != api.OK {
		t.Errorf("a chain of MaxClauses clauses, wrong: %v, %v", got, bad)
	}
	g := over(3)
	for range api.MaxLits / api.MaxClause {
		g.Clauses = append(g.Clauses, append(repeated(-2, api.MaxClause-1), 3))
	}
	if got, bad := Follows(g, api.Clause{3, -2}); !got || bad != api.OK {
		t.Errorf("MaxLits literals: %v, %v", got, bad)
	}
	if got, bad := Follows(g, api.Clause{3, 2}); got || bad != api.OK {
		t.Errorf("MaxLits literals, wrong: %v, %v", got, bad)
	}
}

// TestFollowsAll: all formulas over two variables, and all clauses, with literals in any order and both ways.
func TestFollowsAll(t *testing.T) {
	clauses := append(clausesOver(2), api.Clause{1, -1}, api.Clause{2, -2, 1}, api.Clause{1, 1}, api.Clause{-2, 1, -2}, api.Clause{2, 1})
	for _, f := range formulasOverTwo() {
		for _, c := range clauses {
			if got, bad := Follows(f, c); got != plainFollows(2, f.Clauses, c) || bad != api.OK {
				t.Fatalf("%v of %v: %v, %v", c, f, got, bad)
			}
		}
	}
}

// TestFollowsMany: more variables; P501 against the plain reading, and P505: each model makes true what follows.
func TestFollowsMany(t *testing.T) {
	p := picker(7)
	count := [2]int{}
	for range 20000 {
		vars := p.below(9)
		f := p.formula(vars, 3*vars)
		c := p.clause(vars)
		got, bad := Follows(f, c)
		if got != plainFollows(vars, f.Clauses, c) || bad != api.OK {
			t.Fatalf("%v of %v: %v, %v", c, f, got, bad)
		}
		if !got {
			count[0]++
			continue
		}
		count[1]++
		if slices.ContainsFunc(models(f), func(m int) bool { return !fits(c, m) }) {
			t.Fatalf("%v of %v is not so", c, f)
		}
	}
	if min(count[0], count[1]) < 2000 {
		t.Errorf("only %v", count)
	}
}
