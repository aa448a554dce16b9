package cnf

import (
	"math"
	"slices"
	"testing"

	"cadence/api"
)

// F2.1
func TestLit(t *testing.T) {
	for _, l := range []int{1, -1, 2, -2, 1000, -1000, api.MaxVars - 1, 1 - api.MaxVars, api.MaxVars, -api.MaxVars} {
		if !Lit(l) {
			t.Errorf("Lit(%d) = false", l)
		}
	}
	for _, l := range noLiterals {
		if Lit(l) {
			t.Errorf("Lit(%d) = true", l)
		}
	}
}

// F2.2
func TestNorm(t *testing.T) {
	cases := []struct {
		c, set api.Clause
		both   bool
	}{
		{api.Clause{3, -1, 3, 1}, api.Clause{1, -1, 3}, true},
		{nil, nil, false},
		{api.Clause{}, nil, false},
		{api.Clause{5}, api.Clause{5}, false},
		{api.Clause{-5, -5, -5}, api.Clause{-5}, false},
		{api.Clause{-1, 1}, api.Clause{1, -1}, true},
		{api.Clause{-3, -2, -1}, api.Clause{-1, -2, -3}, false},
		{api.Clause{-2, 3, 1}, api.Clause{1, -2, 3}, false},
		{api.Clause{10, 9, -10}, api.Clause{9, 10, -10}, true},
		{api.Clause{2, -1}, api.Clause{-1, 2}, false},
		{api.Clause{1, -2, 3, -4, 4}, api.Clause{1, -2, 3, 4, -4}, true},
		{api.Clause{-api.MaxVars, api.MaxVars, 1}, api.Clause{1, api.MaxVars, -api.MaxVars}, true},
	}
	for _, c := range cases {
		if set, both, e := Norm(c.c); !sameClause(set, c.set) || both != c.both || e != api.OK {
			t.Errorf("Norm(%v) = %v %v %d, not %v %v", c.c, set, both, e, c.set, c.both)
		}
	}
}

func TestNormAllShort(t *testing.T) {
	lits := []int{1, -1, 2, -2, 3, -3}
	clauses := []api.Clause{{}}
	for k := 0; k < len(clauses); k++ {
		c := clauses[k]
		want, both := plainSet(c, 3)
		if set, is, e := Norm(c); !sameClause(set, want) || is != both || e != api.OK {
			t.Fatalf("Norm(%v) = %v %v %d, not %v %v", c, set, is, e, want, both)
		}
		if len(c) < 5 {
			for _, l := range lits {
				clauses = append(clauses, append(slices.Clone(c), l))
			}
		}
	}
}

func TestNormLimits(t *testing.T) {
	long := span(1, api.MaxClause)
	slices.Reverse(long)
	if set, both, e := Norm(long); !sameClause(set, span(1, api.MaxClause)) || both || e != api.OK {
		t.Errorf("Norm of MaxClause literals: %d of them, %v %d", len(set), both, e)
	}
	same := slices.Repeat(api.Clause{-7}, api.MaxClause)
	if set, both, e := Norm(same); !sameClause(set, api.Clause{-7}) || both || e != api.OK {
		t.Errorf("Norm of one literal MaxClause times: %v %v %d", set, both, e)
	}
	for _, c := range []api.Clause{append(long, 1), append(same, -7), make(api.Clause, api.MaxClause+1), make(api.Clause, 10*api.MaxClause)} {
		if set, both, e := Norm(c); len(set) != 0 || both || e != api.ErrClause {
			t.Errorf("Norm of %d literals: %v %v %d, not ErrClause", len(c), set, both, e)
		}
	}
}

func TestNormNoLiteral(t *testing.T) {
	for _, l := range noLiterals {
		for _, c := range []api.Clause{{l}, {l, 1}, {1, l}, {1, -1, l, 2}} {
			if set, both, e := Norm(c); len(set) != 0 || both || e != api.ErrLit {
				t.Errorf("Norm(%v) = %v %v %d, not ErrLit", c, set, both, e)
			}
		}
	}
}

func TestNormMemory(t *testing.T) {
	for _, c := range []api.Clause{{3, 1, 3}, {1, 2}, {}, {4}} {
		arg := roomy(c)
		before := slices.Clone(arg[:cap(arg)])
		set, _, _ := Norm(arg)
		want := slices.Clone(set)
		scribble(set)
		if !slices.Equal(arg[:cap(arg)], before) {
			t.Errorf("Norm(%v) changed its argument, or handed it out", c)
		}
		if again, _, _ := Norm(arg); !sameClause(again, want) {
			t.Errorf("Norm(%v) = %v the second time, not %v", c, again, want)
		}
	}
}

// F2.4
func TestOf(t *testing.T) {
	m := []int8{1, -1, 0, 2, -2, 127, -128, -1}
	cases := []struct {
		l int
		x int8
	}{{1, 1}, {-1, -1}, {2, -1}, {-2, 1}, {3, 0}, {-3, 0}, {4, 0}, {-4, 0}, {5, 0}, {-5, 0}, {6, 0}, {-6, 0}, {7, 0}, {-7, 0}, {8, -1}, {-8, 1}, {9, 0}, {-9, 0}, {api.MaxVars, 0}, {-api.MaxVars, 0}}
	for _, c := range cases {
		if x := Of(m, c.l); x != c.x {
			t.Errorf("Of(%v, %d) = %d, not %d", m, c.l, x, c.x)
		}
	}
	for _, l := range noLiterals {
		if x := Of(m, l); x != 0 {
			t.Errorf("Of(%v, %d) = %d, not 0", m, l, x)
		}
	}
	for _, l := range []int{1, -1, api.MaxVars, math.MinInt} {
		if x := Of(nil, l); x != 0 {
			t.Errorf("Of(nil, %d) = %d, not 0", l, x)
		}
	}
}

// TestOfEnd: at the greatest variable, and behind it, where an assignment may go on but there is no literal.
func TestOfEnd(t *testing.T) {
	m := slices.Repeat([]int8{-1}, api.MaxVars+2)
	m[api.MaxVars-1] = 1
	cases := []struct {
		l int
		x int8
	}{{api.MaxVars, 1}, {-api.MaxVars, -1}, {api.MaxVars - 1, -1}, {api.MaxVars + 1, 0}, {-api.MaxVars - 1, 0}, {api.MaxVars + 2, 0}}
	for _, c := range cases {
		if x := Of(m, c.l); x != c.x {
			t.Errorf("Of(all, %d) = %d, not %d", c.l, x, c.x)
		}
	}
}

func TestValue(t *testing.T) {
	cases := []struct {
		c api.Clause
		m []int8
		x int8
	}{
		{api.Clause{-1, 2}, []int8{1, -1}, -1},
		{nil, nil, -1},
		{api.Clause{}, []int8{1, 1}, -1},
		{api.Clause{1, 3}, []int8{-1}, 0},
		{api.Clause{1, 3}, []int8{1}, 1},
		{api.Clause{3, 1}, []int8{1}, 1},
		{api.Clause{1, -1}, []int8{1}, 1},
		{api.Clause{1, -1}, []int8{-1}, 1},
		{api.Clause{1, -1}, []int8{0}, 0},
		{api.Clause{1, 1}, []int8{-1}, -1},
		{api.Clause{1}, []int8{2}, 0},
		{api.Clause{0}, []int8{1}, 0},
		{api.Clause{0, 1}, []int8{1}, 1},
		{api.Clause{1, math.MinInt}, []int8{-1}, 0},
		{api.Clause{math.MaxInt, 1}, []int8{-1}, 0},
		{make(api.Clause, api.MaxClause+1), []int8{1}, 0},
		{slices.Repeat(api.Clause{1}, api.MaxClause+1), []int8{-1}, -1},
	}
	for _, c := range cases {
		if x := Value(c.c, c.m); x != c.x {
			t.Errorf("Value(%v.., %v) = %d, not %d", c.c[:min(len(c.c), 4)], c.m, x, c.x)
		}
	}
}

func TestValueAll(t *testing.T) {
	p := picker(1)
	all := assignments(3, 1, -1, 0, 5)
	for range 300 {
		c := p.clause(4, 5)
		if p.below(5) == 0 {
			c = append(c, noLiterals[p.below(len(noLiterals))])
		}
		for _, m := range all {
			if x := Value(c, m); int(x) != plainValue(c, m) {
				t.Fatalf("Value(%v, %v) = %d", c, m, x)
			}
		}
	}
}

// F2.6
func TestResolve(t *testing.T) {
	cases := []struct {
		a, b api.Clause
		v    int
		c    api.Clause
	}{
		{api.Clause{1, 2}, api.Clause{-1, 3}, 1, api.Clause{2, 3}},
		{api.Clause{1}, api.Clause{-1}, 1, nil},
		{api.Clause{3, 1, 3}, api.Clause{-2, -1, 3, -1}, 1, api.Clause{-2, 3}},
		{api.Clause{1, 2}, api.Clause{-1, -2}, 1, api.Clause{2, -2}},
		{api.Clause{1, 2}, api.Clause{-1, -2}, 2, api.Clause{1, -1}},
		{api.Clause{1, -1}, api.Clause{-1}, 1, api.Clause{-1}},
		{api.Clause{1}, api.Clause{-1, 1}, 1, api.Clause{1}},
		{api.Clause{1, -1}, api.Clause{-1, 1}, 1, api.Clause{1, -1}},
		{api.Clause{api.MaxVars, 5}, api.Clause{-api.MaxVars, -api.MaxVars, 4}, api.MaxVars, api.Clause{4, 5}},
	}
	for _, c := range cases {
		got, e := Resolve(c.a, c.b, c.v)
		if !sameClause(got, c.c) || e != api.OK {
			t.Errorf("Resolve(%v, %v, %d) = %v %d, not %v", c.a, c.b, c.v, got, e, c.c)
		}
	}
}

func TestResolveRefuses(t *testing.T) {
	over := slices.Repeat(api.Clause{1}, api.MaxClause+1)
	cases := []struct {
		what string
		a, b api.Clause
		v    int
		e    api.Errno
	}{
		{"no 1 and no -1", api.Clause{2}, api.Clause{3}, 1, api.ErrClause},
		{"no -1", api.Clause{1}, api.Clause{2}, 1, api.ErrClause},
		{"1 in the second", api.Clause{1}, api.Clause{1}, 1, api.ErrClause},
		{"no 1", api.Clause{2}, api.Clause{-1}, 1, api.ErrClause},
		{"the other way round", api.Clause{-1}, api.Clause{1}, 1, api.ErrClause},
		{"empty first", nil, api.Clause{-1}, 1, api.ErrClause},
		{"empty second", api.Clause{1}, nil, 1, api.ErrClause},
		{"v 0", api.Clause{1}, api.Clause{-1}, 0, api.ErrLit},
		{"v below 0", api.Clause{-1}, api.Clause{1}, -1, api.ErrLit},
		{"v above", api.Clause{1}, api.Clause{-1}, api.MaxVars + 1, api.ErrLit},
		{"v greatest", api.Clause{1}, api.Clause{-1}, math.MaxInt, api.ErrLit},
		{"v least", api.Clause{1}, api.Clause{-1}, math.MinInt, api.ErrLit},
		{"v wrong ahead of clauses without it", api.Clause{2}, api.Clause{3}, 0, api.ErrLit},
		{"first too long", over, api.Clause{-1}, 1, api.ErrClause},
		{"second too long", api.Clause{-1}, over, 1, api.ErrClause},
		{"no literal in the first", api.Clause{1, 0}, api.Clause{-1}, 1, api.ErrLit},
		{"no literal in the second", api.Clause{1}, api.Clause{-1, math.MinInt}, 1, api.ErrLit},
		{"first too long, second no literal", over, api.Clause{0}, 1, api.ErrClause},
		{"first no literal, second too long", api.Clause{0}, over, 1, api.ErrLit},
		{"first no literal, v wrong", api.Clause{0}, api.Clause{-1}, 0, api.ErrLit},
		{"first too long, v wrong", over, api.Clause{-1}, 0, api.ErrClause},
		{"second too long, v wrong", api.Clause{1}, over, 0, api.ErrClause},
		{"second no literal, first without v", api.Clause{2}, api.Clause{-1, 0}, 1, api.ErrLit},
	}
	for _, c := range cases {
		if got, e := Resolve(c.a, c.b, c.v); len(got) != 0 || e != c.e {
			t.Errorf("%s: %v %d, not %d", c.what, got, e, c.e)
		}
	}
}

func TestResolveLimit(t *testing.T) {
	half := api.MaxClause / 2
	left := append(span(2, half+1), 1)                     // 1 and half others
	right := append(span(half+2, api.MaxClause+1), -1)     // -1 and half others
	longer := append(slices.Clone(right), api.MaxClause+2) // one more
	if c, e := Resolve(left, right, 1); !sameClause(c, span(2, api.MaxClause+1)) || e != api.OK {
		t.Errorf("Resolve to MaxClause literals: %d of them, %d", len(c), e)
	}
	if c, e := Resolve(left, longer, 1); len(c) != 0 || e != api.ErrClause {
		t.Errorf("Resolve to MaxClause + 1 literals: %d of them, %d", len(c), e)
	}
	// The same literals in both: what counts are the literals that come out.
	full := span(1, api.MaxClause)
	turned := append(span(2, api.MaxClause), -1)
	if c, e := Resolve(full, turned, 1); !sameClause(c, span(2, api.MaxClause)) || e != api.OK {
		t.Errorf("Resolve of MaxClause with the same ones: %d literals, %d", len(c), e)
	}
	often := append(slices.Repeat(api.Clause{2}, api.MaxClause-1), 1)
	oftenTurned := append(slices.Repeat(api.Clause{2}, api.MaxClause-1), -1)
	if c, e := Resolve(often, oftenTurned, 1); !sameClause(c, api.Clause{2}) || e != api.OK {
		t.Errorf("Resolve of clauses with a literal often: %v %d", c, e)
	}
}

func TestResolveAll(t *testing.T) {
	p := picker(2)
	for range 3000 {
		a, b, v := p.clause(4, 5), p.clause(4, 5), 1+p.below(4)
		got, e := Resolve(a, b, v)
		if !slices.Contains(a, v) || !slices.Contains(b, -v) {
			if len(got) != 0 || e != api.ErrClause {
				t.Fatalf("Resolve(%v, %v, %d) = %v %d, not ErrClause", a, b, v, got, e)
			}
			continue
		}
		var joined api.Clause
		for _, l := range a {
			if l != v {
				joined = append(joined, l)
			}
		}
		for _, l := range b {
			if l != -v {
				joined = append(joined, l)
			}
		}
		if want, _ := plainSet(joined, 4); !sameClause(got, want) || e != api.OK {
			t.Fatalf("Resolve(%v, %v, %d) = %v %d, not %v", a, b, v, got, e, want)
		}
	}
}

func TestResolveMemory(t *testing.T) {
	a, b := roomy(api.Clause{1, 2}), roomy(api.Clause{3, -1})
	wholeA, wholeB := slices.Clone(a[:cap(a)]), slices.Clone(b[:cap(b)])
	c, _ := Resolve(a, b, 1)
	scribble(c)
	if !slices.Equal(a[:cap(a)], wholeA) || !slices.Equal(b[:cap(b)], wholeB) {
		t.Error("Resolve changed its arguments, or handed them out")
	}
}

// F2.7
func TestSubsumes(t *testing.T) {
	over := slices.Repeat(api.Clause{1}, api.MaxClause+1)
	cases := []struct {
		what string
		a, b api.Clause
		is   bool
	}{
		{"empty, empty", nil, nil, true},
		{"empty, some", nil, api.Clause{1}, true},
		{"some, empty", api.Clause{1}, nil, false},
		{"same", api.Clause{1, -2}, api.Clause{-2, 1}, true},
		{"fewer", api.Clause{-2}, api.Clause{1, -2, 3}, true},
		{"more", api.Clause{1, -2, 3}, api.Clause{-2, 3}, false},
		{"the other sign", api.Clause{2}, api.Clause{1, -2, 3}, false},
		{"twice in the first", api.Clause{2, 2, 2}, api.Clause{1, 2}, true},
		{"twofold first", api.Clause{1, -1}, api.Clause{1, 2}, false},
		{"both twofold", api.Clause{1, -1}, api.Clause{-1, 2, 1}, true},
		{"first no literal", api.Clause{0}, api.Clause{0}, false},
		{"second no literal", nil, api.Clause{1, math.MinInt}, false},
		{"second no literal, else subsumed", api.Clause{1}, api.Clause{1, api.MaxVars + 1}, false},
		{"first too long", over, api.Clause{1}, false},
		{"second too long", api.Clause{1}, over, false},
		{"both long", over[:api.MaxClause], over[:api.MaxClause], true},
		{"greatest", api.Clause{api.MaxVars, -api.MaxVars}, api.Clause{-api.MaxVars, api.MaxVars}, true},
	}
	for _, c := range cases {
		if is := Subsumes(c.a, c.b); is != c.is {
			t.Errorf("%s: %v", c.what, is)
		}
	}
}

func TestSubsumesAll(t *testing.T) {
	p := picker(3)
	for range 5000 {
		a, b := p.clause(3, 3), p.clause(3, 6)
		want := true
		for _, l := range a {
			want = want && slices.Contains(b, l)
		}
		argA, argB := slices.Clone(a), slices.Clone(b)
		if is := Subsumes(a, b); is != want || !sameClause(a, argA) || !sameClause(b, argB) {
			t.Fatalf("Subsumes(%v, %v) = %v, or they changed", argA, argB, is)
		}
	}
}
