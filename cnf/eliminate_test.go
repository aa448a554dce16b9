package cnf

import (
	"math"
	"slices"
	"testing"

	"cadence/api"
)

// plainEliminate: as the words of the chapter say it, by lists.
func plainEliminate(f api.Formula, v int) api.Formula {
	out := api.Formula{Vars: f.Vars}
	var with, against []api.Clause
	for _, c := range plainTidy(f).Clauses {
		switch {
		case slices.Contains(c, v):
			with = append(with, c)
		case slices.Contains(c, -v):
			against = append(against, c)
		default:
			out.Clauses = append(out.Clauses, c)
		}
	}
	for _, a := range with {
		for _, b := range against {
			var joined api.Clause
			for _, l := range append(slices.Clone(a), b...) {
				if l != v && l != -v {
					joined = append(joined, l)
				}
			}
			out.Clauses = append(out.Clauses, joined)
		}
	}
	return plainTidy(out)
}

// F2.10
func TestEliminate(t *testing.T) {
	cases := []struct {
		f    api.Formula
		v    int
		want api.Formula
	}{
		{formula(4, api.Clause{1, 2}, api.Clause{-1, 3}, api.Clause{-1, -2}, api.Clause{4}), 1, formula(4, api.Clause{4}, api.Clause{2, 3})},
		{formula(1, api.Clause{1}, api.Clause{-1}), 1, formula(1, nil)},
		{formula(1, api.Clause{1}), 1, formula(1)},
		{formula(1, api.Clause{-1, -1}), 1, formula(1)},
		{formula(1, api.Clause{-1, 1}), 1, formula(1)},
		{formula(1), 1, formula(1)},
		{formula(2, api.Clause{}, api.Clause{2, 1}), 2, formula(2, nil)},
		{formula(2, api.Clause{1, 2, 1}, api.Clause{-1, 2}), 1, formula(2, api.Clause{2})},
		// the order: by the clauses with 3, then by those with -3; the ones without it ahead
		{formula(9, api.Clause{-3, 8}, api.Clause{3, 4}, api.Clause{-3, 7}, api.Clause{1}, api.Clause{3, 2}, api.Clause{9, -9}, api.Clause{6}), 3, formula(9, api.Clause{1}, api.Clause{6}, api.Clause{4, 8}, api.Clause{4, 7}, api.Clause{2, 8}, api.Clause{2, 7})},
		// more clauses with 1 than with -1, and the other way round
		{formula(9, api.Clause{1, 2}, api.Clause{1, 3}, api.Clause{1, 4}, api.Clause{-1, 9, 8, 7}, api.Clause{-1, 5, 6}), 1, formula(9, api.Clause{2, 7, 8, 9}, api.Clause{2, 5, 6}, api.Clause{3, 7, 8, 9}, api.Clause{3, 5, 6}, api.Clause{4, 7, 8, 9}, api.Clause{4, 5, 6})},
		{formula(9, api.Clause{-1, 2}, api.Clause{-1, 3}, api.Clause{-1, 4}, api.Clause{1, 9, 8, 7}, api.Clause{1, 5, 6}), 1, formula(9, api.Clause{2, 7, 8, 9}, api.Clause{3, 7, 8, 9}, api.Clause{4, 7, 8, 9}, api.Clause{2, 5, 6}, api.Clause{3, 5, 6}, api.Clause{4, 5, 6})},
		// one that stood already stays where it stood
		{formula(4, api.Clause{4}, api.Clause{1, 2}, api.Clause{-1, 3}, api.Clause{3, 2}, api.Clause{-1, 4}), 1, formula(4, api.Clause{4}, api.Clause{2, 3}, api.Clause{2, 4})},
		// like ones by several pairs: the first one stays
		{formula(9, api.Clause{1, 2}, api.Clause{1, 3}, api.Clause{-1, 2, 3}, api.Clause{-1, 4}, api.Clause{-1, 3}), 1, formula(9, api.Clause{2, 3}, api.Clause{2, 4}, api.Clause{3, 4}, api.Clause{3})},
		{formula(api.MaxVars, api.Clause{api.MaxVars, 1}, api.Clause{-api.MaxVars, -2}), api.MaxVars, formula(api.MaxVars, api.Clause{1, -2})},
	}
	for _, c := range cases {
		if got, e := Eliminate(c.f, c.v); !sameFormula(got, c.want) || e != api.OK {
			t.Errorf("Eliminate(%v, %d) = %v %d, not %v", c.f, c.v, got, e, c.want)
		}
	}
	for _, v := range []int{0, -1, 5, api.MaxVars, api.MaxVars + 1, math.MaxInt, math.MinInt} {
		if got, e := Eliminate(cases[0].f, v); !isZero(got) || e != api.ErrLit {
			t.Errorf("Eliminate of %d: %v %d, not ErrLit", v, got, e)
		}
	}
	if got, e := Eliminate(api.Formula{}, 1); !isZero(got) || e != api.ErrLit {
		t.Errorf("Eliminate of nothing: %v %d, not ErrLit", got, e)
	}
}

func TestEliminateAll(t *testing.T) {
	p := picker(6)
	for range 4000 {
		vars := 1 + p.below(5)
		f, v := p.formula(vars, 14, 4), 1+p.below(vars)
		want := plainEliminate(f, v)
		if got, e := Eliminate(f, v); !sameFormula(got, want) || e != api.OK {
			t.Fatalf("Eliminate(%v, %d) = %v %d, not %v", f, v, got, e, want)
		}
	}
}

// grid: n clauses with 1 and m with -1, each with a variable of its own from 2 on.
func grid(n, m int) api.Formula {
	f := formula(5000)
	for k := range n {
		f.Clauses = append(f.Clauses, api.Clause{1, 2 + k})
	}
	for k := range m {
		f.Clauses = append(f.Clauses, api.Clause{-1, 2 + n + k})
	}
	return f
}

func TestEliminateProduct(t *testing.T) {
	f := grid(1024, 1024) // just MaxClauses pairs
	got, e := Eliminate(f, 1)
	if len(got.Clauses) != api.MaxClauses || e != api.OK {
		t.Fatalf("Eliminate to MaxClauses clauses: %d of them, %d", len(got.Clauses), e)
	}
	for k, c := range got.Clauses {
		if !sameClause(c, api.Clause{2 + k/1024, 1026 + k%1024}) {
			t.Fatalf("Eliminate to MaxClauses clauses: %v at %d", c, k)
		}
	}
	more := formula(f.Vars, append(f.Clauses, api.Clause{1026, 2})...) // like the first that comes out
	if got, e := Eliminate(more, 1); len(got.Clauses) != api.MaxClauses || e != api.OK || !sameClause(got.Clauses[0], api.Clause{2, 1026}) {
		t.Errorf("Eliminate to MaxClauses clauses with a like one: %d of them, %d", len(got.Clauses), e)
	}
	more = formula(f.Vars, append(f.Clauses, api.Clause{5000})...)
	if got, e := Eliminate(more, 1); !isZero(got) || e != api.ErrClauses {
		t.Errorf("Eliminate to MaxClauses + 1 clauses: %d of them, %d", len(got.Clauses), e)
	}
	for _, f := range []api.Formula{grid(1025, 1024), grid(1024, 1025), grid(4000, 900)} {
		if got, e := Eliminate(f, 1); !isZero(got) || e != api.ErrClauses {
			t.Errorf("Eliminate of more than MaxClauses pairs: %d clauses, %d", len(got.Clauses), e)
		}
	}
	// What counts are the clauses of the Tidy: like and twofold ones are none.
	f = grid(1024, 1024)
	f.Clauses = append(f.Clauses, api.Clause{2, 1, 2}, api.Clause{1, 3, -3}, api.Clause{1, -1})
	if got, e := Eliminate(f, 1); len(got.Clauses) != api.MaxClauses || e != api.OK {
		t.Errorf("Eliminate of MaxClauses pairs and some that go: %d clauses, %d", len(got.Clauses), e)
	}
}

// TestEliminateFewComeOut: what comes out is small, though the list ahead of its tidying is not.
func TestEliminateFewComeOut(t *testing.T) {
	long := span(1, api.MaxClause)
	f := formula(api.MaxVars, long)
	for k := 2; k <= api.MaxClause; k++ {
		f.Clauses = append(f.Clauses, api.Clause{-1, k}) // nothing new beside long
	}
	if got, e := Eliminate(f, 1); !sameFormula(got, formula(api.MaxVars, span(2, api.MaxClause))) || e != api.OK {
		t.Errorf("Eliminate to one long clause: %d clauses, %d", len(got.Clauses), e)
	}
	f.Clauses[0] = append(span(2, api.MaxClause), -1)
	for k := 1; k < len(f.Clauses); k++ {
		f.Clauses[k] = api.Clause{1, k + 1}
	}
	if got, e := Eliminate(f, 1); !sameFormula(got, formula(api.MaxVars, span(2, api.MaxClause))) || e != api.OK {
		t.Errorf("Eliminate to one long clause, the other way round: %d clauses, %d", len(got.Clauses), e)
	}
	// All of them twofold: nothing comes out.
	f = formula(api.MaxVars, long)
	for k := 2; k <= 1000; k++ {
		f.Clauses = append(f.Clauses, api.Clause{-1, -k})
	}
	if got, e := Eliminate(f, 1); !sameFormula(got, formula(api.MaxVars)) || e != api.OK {
		t.Errorf("Eliminate to nothing: %d clauses, %d", len(got.Clauses), e)
	}
}

// comb: one clause with 1 and MaxClause - 1 others, and n clauses with -1 and another variable; or all that with 1 turned.
func comb(n int, turned bool) api.Formula {
	sign := 1
	if turned {
		sign = -1
	}
	f := formula(api.MaxVars, append(span(2, api.MaxClause), sign))
	for k := range n {
		f.Clauses = append(f.Clauses, api.Clause{-sign, api.MaxClause + 1 + k})
	}
	return f
}

func TestEliminateLits(t *testing.T) {
	for _, turned := range []bool{false, true} {
		got, e := Eliminate(comb(64, turned), 1) // just MaxLits literals
		if len(got.Clauses) != 64 || e != api.OK {
			t.Fatalf("Eliminate to MaxLits literals: %d clauses, %d", len(got.Clauses), e)
		}
		for k, c := range got.Clauses {
			if !sameClause(c, append(span(2, api.MaxClause), api.MaxClause+1+k)) {
				t.Errorf("Eliminate to MaxLits literals: another clause at %d", k)
			}
		}
		for _, n := range []int{65, api.MaxVars - api.MaxClause} {
			if got, e := Eliminate(comb(n, turned), 1); !isZero(got) || e != api.ErrClauses {
				t.Errorf("Eliminate to more than MaxLits literals by %d clauses: %d clauses, %d", n, len(got.Clauses), e)
			}
		}
		f := comb(64, turned)
		f.Clauses = append(f.Clauses, api.Clause{api.MaxVars})
		if got, e := Eliminate(f, 1); !isZero(got) || e != api.ErrClauses {
			t.Errorf("Eliminate to MaxLits + 1 literals: %d clauses, %d", len(got.Clauses), e)
		}
		f.Clauses[65] = api.Clause{}
		if got, e := Eliminate(f, 1); len(got.Clauses) != 65 || e != api.OK {
			t.Errorf("Eliminate to MaxLits literals and an empty clause: %d clauses, %d", len(got.Clauses), e)
		}
	}
}

// TestEliminateLong: the error of a Resolve is the call's, whatever else is wrong with what would come out.
func TestEliminateLong(t *testing.T) {
	for _, turned := range []bool{false, true} {
		sign := -1
		if turned {
			sign = 1
		}
		long := api.Clause{sign, api.MaxVars - 1, api.MaxVars}
		twofold := api.Clause{sign, -2, api.MaxVars} // MaxClause + 1 literals come out, though the clause would be left out
		for _, n := range []int{0, 1, 64, 100} {
			for _, last := range []api.Clause{long, twofold} {
				f := comb(n, turned)
				f.Clauses = append(f.Clauses, last)
				if got, e := Eliminate(f, 1); !isZero(got) || e != api.ErrClause {
					t.Errorf("Eliminate with %d and one too long: %d clauses, %d, not ErrClause", n, len(got.Clauses), e)
				}
			}
		}
		// Without one more they just fit, and 2 and -2 are left out.
		f := comb(0, turned)
		f.Clauses = append(f.Clauses, api.Clause{sign, -2})
		if got, e := Eliminate(f, 1); !sameFormula(got, formula(api.MaxVars)) || e != api.OK {
			t.Errorf("Eliminate to a twofold clause of MaxClause literals: %d clauses, %d", len(got.Clauses), e)
		}
		// Too many pairs come ahead of a Resolve.
		f = grid(1024, 1024)
		f.Vars = api.MaxVars
		f.Clauses = append(f.Clauses, append(span(2, api.MaxClause), sign), append(span(100000, 165000), -sign))
		if got, e := Eliminate(f, 1); !isZero(got) || e != api.ErrClauses {
			t.Errorf("Eliminate with too many pairs and one too long: %d clauses, %d, not ErrClauses", len(got.Clauses), e)
		}
	}
}
