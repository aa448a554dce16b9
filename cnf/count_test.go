package cnf

import (
	"testing"

	"cadence/api"
)

// F2.11
func TestCount(t *testing.T) {
	long := span(1, 20)
	turned := api.Clause{}
	for _, l := range long {
		turned = append(turned, -l)
	}
	cases := []struct {
		f api.Formula
		n uint64
	}{
		{formula(2, api.Clause{1, 2}), 3},
		{formula(3), 8},
		{formula(0, api.Clause{}), 0},
		{formula(0), 1},
		{api.Formula{}, 1},
		{formula(20), 1 << 20},
		{formula(20, long), 1<<20 - 1},
		{formula(20, long, turned), 1<<20 - 2},
		{formula(20, long, turned, long), 1<<20 - 2},
		{formula(20, api.Clause{20}), 1 << 19},
		{formula(20, api.Clause{-20}, api.Clause{1}), 1 << 18},
		{formula(20, api.Clause{7}, api.Clause{-6}), 1 << 18},
		{formula(20, api.Clause{}), 0},
		{formula(20, api.Clause{5, -5}), 1 << 20},
		{formula(20, api.Clause{20, -20}, api.Clause{20}, api.Clause{-20}), 0},
		{formula(6), 64},
		{formula(7), 128},
		{formula(6, api.Clause{6}), 32},
		{formula(7, api.Clause{7}), 64},
		{formula(5, api.Clause{1, 1, 1}), 16},
	}
	for _, c := range cases {
		if n, e := Count(c.f); n != c.n || e != api.OK {
			t.Errorf("Count(%v) = %d %d, not %d", c.f, n, e, c.n)
		}
	}
	for _, f := range []api.Formula{formula(21), formula(21, api.Clause{}), formula(22, api.Clause{1}), formula(api.MaxVars)} {
		if n, e := Count(f); n != 0 || e != api.ErrVars {
			t.Errorf("Count over %d: %d %d, not ErrVars", f.Vars, n, e)
		}
	}
	if n, e := Count(formula(21, api.Clause{22})); n != 0 || e != api.ErrLit {
		t.Errorf("Count with two faults: %d %d, not ErrLit", n, e)
	}
}

func TestCountAll(t *testing.T) {
	p := picker(7)
	for vars := range 10 {
		all := assignments(vars, 1, -1)
		for range 60 {
			f := p.formula(vars, 8, 4)
			want := uint64(0)
			for _, m := range all {
				if plainFormula(f, m) == 1 {
					want++
				}
			}
			if n, e := Count(f); n != want || e != api.OK {
				t.Fatalf("Count(%v) = %d %d, not %d", f, n, e, want)
			}
		}
	}
}

// TestCountMany: MaxClauses clauses over 20 variables; each of some assignments is refuted by clauses of its own.
func TestCountMany(t *testing.T) {
	f := formula(20)
	for k := range api.MaxLits / 20 {
		c := api.Clause{}
		for v := 1; v <= 20; v++ {
			if k>>(v-1)&1 == 1 {
				c = append(c, -v)
			} else {
				c = append(c, v)
			}
		}
		f.Clauses = append(f.Clauses, c)
	}
	if n, e := Count(f); n != 1<<20-api.MaxLits/20 || e != api.OK {
		t.Errorf("Count of many long clauses: %d %d", n, e)
	}
	f = formula(20)
	for k := range api.MaxClauses {
		f.Clauses = append(f.Clauses, api.Clause{1 + k%7, 8 + k%5, 13 + k%8})
	}
	if n, e := Count(f); n != countByParts() || e != api.OK {
		t.Errorf("Count of many short clauses: %d %d, not %d", n, e, countByParts())
	}
}

// countByParts: all threes of one of 7, one of 5 and one of 8 variables are true just if one of the three groups is all true.
func countByParts() uint64 {
	return 1<<20 - (1<<7-1)*(1<<5-1)*(1<<8-1)
}
