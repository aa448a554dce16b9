package cnf

import (
	"math"
	"slices"
	"testing"

	"cadence/api"
)

// fault is a formula that may not be.
type fault struct {
	what  string
	f     api.Formula
	place int
	e     api.Errno
}

// full: 64 clauses of MaxClause literals, which are MaxLits.
func full() []api.Clause {
	return slices.Repeat([]api.Clause{slices.Repeat(api.Clause{1}, api.MaxClause)}, api.MaxLits/api.MaxClause)
}

func faults() []fault {
	over := slices.Repeat(api.Clause{1}, api.MaxClause+1)
	many := make([]api.Clause, api.MaxClauses+1)
	manyBad := slices.Repeat([]api.Clause{{0}}, api.MaxClauses+1)
	list := []fault{
		{"Vars -1", formula(-1), -1, api.ErrVars},
		{"Vars least", formula(math.MinInt), -1, api.ErrVars},
		{"Vars above", formula(api.MaxVars + 1), -1, api.ErrVars},
		{"Vars greatest", formula(math.MaxInt, api.Clause{1}), -1, api.ErrVars},
		{"Vars ahead of clauses", formula(-1, many...), -1, api.ErrVars},
		{"Vars ahead of a literal", formula(-1, api.Clause{0}), -1, api.ErrVars},
		{"clauses", formula(1, many...), -1, api.ErrClauses},
		{"clauses ahead of a literal", formula(1, manyBad...), -1, api.ErrClauses},
		{"long", formula(1, api.Clause{1}, over), 1, api.ErrClause},
		{"long ahead of a literal in it", formula(1, make(api.Clause, api.MaxClause+1)), 0, api.ErrClause},
		{"a literal ahead of a long one", formula(1, api.Clause{1}, api.Clause{2}, over), 1, api.ErrLit},
		{"variable above Vars", formula(2, api.Clause{1, -2}, api.Clause{}, api.Clause{1, 3}), 2, api.ErrLit},
		{"variable above Vars, turned", formula(2, api.Clause{-3}), 0, api.ErrLit},
		{"variable above 0", formula(0, api.Clause{}, api.Clause{1}), 1, api.ErrLit},
		{"all literals", formula(1, append(full(), api.Clause{1})...), 64, api.ErrClauses},
		{"all literals, behind an empty one", formula(1, append(full(), api.Clause{}, api.Clause{1, 1})...), 65, api.ErrClauses},
		{"a literal ahead of all literals", formula(1, append(full(), api.Clause{2})...), 64, api.ErrLit},
		{"long ahead of all literals", formula(1, append(full(), over)...), 64, api.ErrClause},
		{"all literals ahead of a later one", formula(1, append(full(), api.Clause{1}, api.Clause{0})...), 64, api.ErrClauses},
	}
	for _, l := range noLiterals {
		list = append(list, fault{"no literal", formula(api.MaxVars, api.Clause{1}, api.Clause{1, l}), 1, api.ErrLit})
	}
	return list
}

// F2.3
func TestCheck(t *testing.T) {
	for _, x := range faults() {
		if place, e := Check(x.f); place != x.place || e != x.e {
			t.Errorf("%s: Check = %d %d, not %d %d", x.what, place, e, x.place, x.e)
		}
	}
	good := []api.Formula{
		{}, formula(0), formula(0, api.Clause{}), formula(0, nil, nil), formula(1, api.Clause{1, -1, 1}), formula(api.MaxVars, api.Clause{api.MaxVars, -api.MaxVars}),
		formula(api.MaxVars), formula(3, api.Clause{-3}), formula(0, make([]api.Clause, api.MaxClauses)...), formula(1, full()...), formula(1, append(full(), nil, api.Clause{})...),
	}
	for k, f := range good {
		if place, e := Check(f); place != 0 || e != api.OK {
			t.Errorf("good formula %d: Check = %d %d", k, place, e)
		}
	}
}

// TestFaultsEverywhere: each call that takes formulas answers Check's error, ahead of those of its own.
func TestFaultsEverywhere(t *testing.T) {
	for _, x := range faults() {
		if v, k, e := Under(x.f, []int8{1}); v != 0 || k != 0 || e != x.e {
			t.Errorf("%s: Under = %d %d %d, not %d", x.what, v, k, e, x.e)
		}
		for _, l := range []int{1, 0, math.MinInt} {
			if g, e := Assign(x.f, l); !isZero(g) || e != x.e {
				t.Errorf("%s: Assign by %d: %d, not %d", x.what, l, e, x.e)
			}
			if g, e := Eliminate(x.f, l); !isZero(g) || e != x.e {
				t.Errorf("%s: Eliminate of %d: %d, not %d", x.what, l, e, x.e)
			}
		}
		if g, e := Tidy(x.f); !isZero(g) || e != x.e {
			t.Errorf("%s: Tidy: %d, not %d", x.what, e, x.e)
		}
		if n, e := Count(x.f); n != 0 || e != x.e {
			t.Errorf("%s: Count = %d %d, not %d", x.what, n, e, x.e)
		}
		if s, e := Print(x.f); s != "" || e != x.e {
			t.Errorf("%s: Print = %q %d, not %d", x.what, s, e, x.e)
		}
	}
}

// F2.5
func TestUnder(t *testing.T) {
	f := formula(3, api.Clause{1, 2}, api.Clause{-1}, api.Clause{3})
	cases := []struct {
		f     api.Formula
		m     []int8
		value int8
		place int
	}{
		{f, []int8{1}, -1, 1},
		{f, []int8{-1, 1}, 0, 2},
		{f, []int8{-1, 1, 1}, 1, 3},
		{f, []int8{-1, 1, 1, -1, -1}, 1, 3},
		{f, nil, 0, 0},
		{f, []int8{0, 0, -1}, -1, 2},
		{f, []int8{1, 1, -1}, -1, 1},
		{f, []int8{-1, -1, -1}, -1, 0},
		{f, []int8{7, -7, 1}, 0, 0},
		{api.Formula{}, nil, 1, 0},
		{formula(5), []int8{1}, 1, 0},
		{formula(0, api.Clause{}), nil, -1, 0},
		{formula(1, api.Clause{1}, api.Clause{}), nil, -1, 1},
		{formula(1, api.Clause{1}, api.Clause{1, -1}), []int8{1}, 1, 2},
	}
	for _, c := range cases {
		if value, place, e := Under(c.f, c.m); value != c.value || place != c.place || e != api.OK {
			t.Errorf("Under(%v, %v) = %d %d %d, not %d %d", c.f, c.m, value, place, e, c.value, c.place)
		}
	}
}

func TestUnderAll(t *testing.T) {
	p := picker(4)
	all := assignments(3, 1, -1, 0)
	for range 400 {
		f := p.formula(3, 5, 3)
		for _, m := range all {
			value, place := 1, len(f.Clauses)
			for _, x := range []int{0, -1} {
				for k := len(f.Clauses) - 1; k >= 0; k-- {
					if plainValue(f.Clauses[k], m) == x {
						value, place = x, k
					}
				}
			}
			if v, k, e := Under(f, m); int(v) != value || k != place || e != api.OK {
				t.Fatalf("Under(%v, %v) = %d %d %d, not %d %d", f, m, v, k, e, value, place)
			}
		}
	}
}

// F2.8
func TestAssign(t *testing.T) {
	f := formula(3, api.Clause{1, 2}, api.Clause{-1, 3}, api.Clause{2})
	rough := formula(4, api.Clause{3, -1, 3, -2, -1}, api.Clause{1, -1}, api.Clause{}, api.Clause{2, -2}, api.Clause{4, 4})
	cases := []struct {
		f    api.Formula
		l    int
		want api.Formula
	}{
		{f, 1, formula(3, api.Clause{3}, api.Clause{2})},
		{f, -2, formula(3, api.Clause{1}, api.Clause{-1, 3}, nil)},
		{f, -1, formula(3, api.Clause{2}, api.Clause{2})},
		{f, 3, formula(3, api.Clause{1, 2}, api.Clause{2})},
		{f, -3, formula(3, api.Clause{1, 2}, api.Clause{-1}, api.Clause{2})},
		{rough, 1, formula(4, api.Clause{3, 3, -2}, nil, api.Clause{2, -2}, api.Clause{4, 4})},
		{rough, -1, formula(4, nil, api.Clause{2, -2}, api.Clause{4, 4})},
		{rough, -4, formula(4, api.Clause{3, -1, 3, -2, -1}, api.Clause{1, -1}, nil, api.Clause{2, -2}, nil)},
		{formula(api.MaxVars, api.Clause{api.MaxVars, 1}), -api.MaxVars, formula(api.MaxVars, api.Clause{1})},
		{formula(7), 7, formula(7)},
	}
	for _, c := range cases {
		if got, e := Assign(c.f, c.l); !sameFormula(got, c.want) || e != api.OK {
			t.Errorf("Assign(%v, %d) = %v %d, not %v", c.f, c.l, got, e, c.want)
		}
	}
	for _, l := range append([]int{4, -4}, noLiterals...) {
		if got, e := Assign(f, l); !isZero(got) || e != api.ErrLit {
			t.Errorf("Assign(%v, %d) = %v %d, not ErrLit", f, l, got, e)
		}
	}
	for _, l := range []int{0, 1, -1} {
		if got, e := Assign(api.Formula{}, l); !isZero(got) || e != api.ErrLit {
			t.Errorf("Assign of nothing by %d: %v %d, not ErrLit", l, got, e)
		}
	}
}

// F2.9
func TestTidy(t *testing.T) {
	cases := []struct{ f, want api.Formula }{
		{formula(2, api.Clause{2, 1}, api.Clause{1, -1}, api.Clause{1, 2, 1}), formula(2, api.Clause{1, 2})},
		{api.Formula{}, api.Formula{}},
		{formula(9), formula(9)},
		{formula(0, nil, api.Clause{}, nil), formula(0, nil)},
		{formula(3, api.Clause{3}, api.Clause{}, api.Clause{-1, 2}, api.Clause{3, 3}, api.Clause{2, -1}, api.Clause{1, 2}), formula(3, api.Clause{3}, nil, api.Clause{-1, 2}, api.Clause{1, 2})},
		{formula(3, api.Clause{-2, 2}, api.Clause{3, 1, -3}), formula(3)},
		// clauses whose texts could run together, if nothing stood between the numbers
		{formula(112, api.Clause{1, 12}, api.Clause{11, 2}, api.Clause{112}, api.Clause{1, 2}, api.Clause{12}, api.Clause{-1, 2}, api.Clause{1, -2}), formula(112, api.Clause{1, 12}, api.Clause{2, 11}, api.Clause{112}, api.Clause{1, 2}, api.Clause{12}, api.Clause{-1, 2}, api.Clause{1, -2})},
		{formula(api.MaxVars, api.Clause{api.MaxVars, -1}, api.Clause{-1, api.MaxVars}), formula(api.MaxVars, api.Clause{-1, api.MaxVars})},
	}
	for _, c := range cases {
		if got, e := Tidy(c.f); !sameFormula(got, c.want) || e != api.OK {
			t.Errorf("Tidy(%v) = %v %d, not %v", c.f, got, e, c.want)
		}
	}
	p := picker(5)
	for range 2000 {
		f := p.formula(3, 12, 4)
		if got, e := Tidy(f); !sameFormula(got, plainTidy(f)) || e != api.OK {
			t.Fatalf("Tidy(%v) = %v %d, not %v", f, got, e, plainTidy(f))
		}
	}
}

func TestTidyLimits(t *testing.T) {
	var clauses []api.Clause
	for v := 1; v <= api.MaxVars; v++ {
		clauses = append(clauses, api.Clause{-v})
	}
	f := formula(api.MaxVars, clauses...)
	if got, e := Tidy(f); !sameFormula(got, f) || e != api.OK {
		t.Errorf("Tidy of MaxClauses clauses: %d of them, %d", len(got.Clauses), e)
	}
	if got, e := Tidy(formula(1, full()...)); !sameFormula(got, formula(1, api.Clause{1})) || e != api.OK {
		t.Errorf("Tidy of MaxLits like literals: %d clauses, %d", len(got.Clauses), e)
	}
	clauses = nil
	for k := range api.MaxLits / api.MaxClause {
		clauses = append(clauses, span(1+k*api.MaxClause/8, (k+8)*api.MaxClause/8))
	}
	f = formula(api.MaxVars, clauses...)
	if got, e := Tidy(f); !sameFormula(got, f) || e != api.OK {
		t.Errorf("Tidy of MaxLits literals: %d clauses, %d", len(got.Clauses), e)
	}
}

// TestFormulaMemory: calls change nothing of what they are given, and hand out nothing of it.
func TestFormulaMemory(t *testing.T) {
	calls := map[string]func(api.Formula) (api.Formula, api.Errno){
		"Tidy":           Tidy,
		"Assign by 1":    func(f api.Formula) (api.Formula, api.Errno) { return Assign(f, 1) },
		"Assign by -3":   func(f api.Formula) (api.Formula, api.Errno) { return Assign(f, -3) },
		"Eliminate of 1": func(f api.Formula) (api.Formula, api.Errno) { return Eliminate(f, 1) },
		"Eliminate of 4": func(f api.Formula) (api.Formula, api.Errno) { return Eliminate(f, 4) },
		"Print and Parse": func(f api.Formula) (api.Formula, api.Errno) {
			s, _ := Print(f)
			g, _, e := Parse(s)
			return g, e
		},
		"the rest": func(f api.Formula) (api.Formula, api.Errno) {
			Check(f)
			Under(f, []int8{1, 1, -1})
			_, e := Count(f)
			return api.Formula{}, e
		},
	}
	f := formula(4, api.Clause{2, 1}, api.Clause{1, 2, 3}, api.Clause{}, api.Clause{-1, 3}, api.Clause{3, -1, -3}, api.Clause{-4, -1}, api.Clause{2, 3}, api.Clause{4, 2})
	for what, call := range calls {
		arg := roomyFormula(f)
		before := wholeFormula(arg)
		got, e := call(arg)
		if e != api.OK {
			t.Errorf("%s: error %d", what, e)
		}
		want := formula(got.Vars)
		for _, c := range got.Clauses {
			want.Clauses = append(want.Clauses, slices.Clone(c))
		}
		checkApart(t, what, got)
		scribbleFormula(got)
		if !slices.EqualFunc(wholeFormula(arg), before, sameClause) || !sameFormula(arg, f) {
			t.Errorf("%s: its argument has changed, or was handed out", what)
		}
		if again, _ := call(arg); !sameFormula(again, want) {
			t.Errorf("%s: %v the second time, not %v", what, again, want)
		}
	}
}
