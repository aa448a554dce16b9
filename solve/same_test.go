package solve

import (
	"fmt"
	"testing"

	"cadence/api"
	"cadence/eval"
	"cadence/simp"
	"cadence/term"
)

// Written by hand: two terms, and the same two the other way round.
func TestSameByHand(t *testing.T) {
	for _, x := range []struct{ a, b, one, other string }{
		{"p", "p", "unsat; 1, 0", "unsat; 1, 0"},
		{"k:8", "k:8", "unsat; 1, 0", "unsat; 1, 0"},
		{"(add k:8 3:8)", "(add 3:8 k:8)", "unsat; 1, 0", "unsat; 1, 0"},
		{"(ule k:8 j:8)", "(not (ult j:8 k:8))", "unsat; 1, 0", "unsat; 1, 0"},
		{"(sub k:8 k:8)", "0:8", "unsat; 1, 0", "unsat; 1, 0"},
		{"T", "(or p (not p))", "unsat; 1, 0", "unsat; 1, 0"},
		{"T", "F", "sat ; 0, 0", "sat ; 0, 0"},
		{"3:4", "4:4", "sat ; 0, 0", "sat ; 0, 0"},
		{"p", "(not p)", "sat p:0 0; 0, 0", "sat p:0 0; 0, 0"},
		{"(xor p (not p))", "F", "sat p:0 0; 0, 0", "sat p:0 0; 0, 0"},
		{"p", "T", "sat p:0 0; 1, 0", "sat p:0 0; 1, 0"},
		{"p", "F", "sat p:0 1; 1, 0", "sat p:0 1; 1, 0"},
		// The input that is met first is false.
		{"p", "q", "sat p:0 0, q:0 1; 10, 1", "sat p:0 1, q:0 0; 10, 1"},
		{"k:1", "j:1", "sat j:1 1, k:1 0; 10, 1", "sat j:1 0, k:1 1; 10, 1"},
		{"k:64", "0:64", "sat k:64 9223372036854775808; 190, 63", "sat k:64 9223372036854775808; 190, 63"},
		{"k:8", "1:8", "sat k:8 0; 22, 8", "sat k:8 0; 22, 8"},
		// What is gone when the two are simple, in either of them.
		{"(bxor (bxor k:2 j:2) k:2)", "2:2", "sat j:2 0, k:2 0; 4, 1", "sat j:2 0, k:2 0; 4, 1"},
		{"(and p (eq i:8 i:8))", "(or F (ite T p q))", "unsat; 1, 0", "unsat; 1, 0"},
		{"(and p (eq i:8 i:8))", "(or F (ite T (not p) q))", "sat i:8 0, p:0 0, q:0 0; 0, 0", "sat i:8 0, p:0 0, q:0 0; 0, 0"},
	} {
		s := newStore(t)
		all(t, s, "(add other:8 q1:8)", "z")
		a, b := made(t, s, x.a), made(t, s, x.b)
		is(t, fmt.Sprint(x.a, " ", x.b), text(compared(t, s, a, b, -1, -1)), x.one)
		is(t, fmt.Sprint(x.b, " ", x.a), text(compared(t, s, b, a, -1, -1)), x.other)
	}
}

// Budgets of 0 and 1, and of just what it takes.
func TestSameBudgets(t *testing.T) {
	s := newStore(t)
	k, j, p, q := made(t, s, "k:4"), made(t, s, "j:4"), made(t, s, "p"), made(t, s, "q")
	not := made(t, s, "(not p)")
	for _, x := range []struct {
		a, b               int
		clauses, decisions int64
		want               string
	}{
		{k, k, 0, 0, "no clauses; 0, 0"}, {k, k, 1, 0, "unsat; 1, 0"}, {k, k, 0, 1, "no clauses; 0, 0"}, {k, k, 1, 1, "unsat; 1, 0"},
		{p, p, 0, -1, "no clauses; 0, 0"}, {p, p, 1, -1, "unsat; 1, 0"},
		{p, not, 0, 0, "sat p:0 0; 0, 0"}, {not, p, 1, 1, "sat p:0 0; 0, 0"},
		{p, q, 0, 0, "no clauses; 0, 0"}, {p, q, 1, 1, "no clauses; 0, 0"}, {p, q, 9, 1, "no clauses; 0, 0"},
		{p, q, 10, 0, "no decisions; 10, 0"}, {p, q, -1, 0, "no decisions; 10, 0"},
		{p, q, 10, 1, "sat p:0 0, q:0 1; 10, 1"}, {p, q, 11, 2, "sat p:0 0, q:0 1; 10, 1"},
		{k, j, 0, -1, "no clauses; 0, 0"}, {k, j, 1, -1, "no clauses; 0, 0"},
		{k, j, -1, 0, "no decisions; 46, 0"}, {k, j, -1, 1, "no decisions; 46, 1"},
	} {
		is(t, fmt.Sprint(x), text(compared(t, s, x.a, x.b, x.clauses, x.decisions)), x.want)
	}
}

// likewise: the chapter's words: Solve over the maker in which a, then b are simple; variables that are gone as 0.
func likewise(t testing.TB, s *term.Store, a, b int, clauses, decisions int64) api.Result {
	t.Helper()
	m, pair, e := simp.Simplify(s, a, b)
	is(t, "Simplify", e, api.OK)
	eq := must[int](t)(m.Bin(api.OpEq, pair[0], pair[1]))
	r := must[api.Result](t)(Solve(m.Store(), []int{must[int](t)(m.Un(api.OpNot, eq))}, clauses, decisions))
	if r.Kind != api.Sat {
		return r
	}
	vals := variablesOf(t, s, []int{a, b})
	for i, v := range vals {
		for _, told := range r.Values {
			if told.Name == v.Name {
				vals[i] = told
			}
		}
	}
	r.Values = vals
	return r
}

// P1304 over many pairs: as Solve of the maker's truth; and Sat and Unsat against all values.
func TestSameOfMany(t *testing.T) {
	p := picker(1304)
	kinds := [4]int{}
	for round := range 1500 {
		s := grown(t, &p, 10+round%40)
		a, b := 1+p.below(s.Len()), 1+p.below(s.Len())
		for nodeOf(s, a).W != nodeOf(s, b).W {
			a, b = b, 1+p.below(s.Len())
		}
		r := compared(t, s, a, b, -1, -1)
		is(t, "Same", text(r), text(likewise(t, s, a, b, -1, -1)))
		clauses, decisions := r.Clauses+int64(p.below(3)-1), r.Decisions+int64(p.below(3)-1)
		is(t, "Same with budgets", text(compared(t, s, a, b, clauses, decisions)), text(likewise(t, s, a, b, clauses, decisions)))
		kinds[r.Kind]++
		differ := func(vals []api.Value) bool {
			two := must[[]uint64](t)(eval.Values(s, []int{a, b}, vals))
			return two[0] != two[1]
		}
		if r.Kind == api.Sat {
			is(t, "they differ", differ(r.Values), true)
			continue
		}
		for _, vals := range everyValue(variablesOf(t, s, []int{a, b})) {
			is(t, fmt.Sprint(vals), differ(vals), false)
		}
	}
	if kinds[api.Sat] < 200 || kinds[api.Unsat] < 200 {
		t.Fatal(kinds)
	}
}

// In a store that is full there is no room for another term, and none is needed.
func TestSameInAFullStore(t *testing.T) {
	s := must[*term.Store](t)(term.New(3))
	all(t, s, "(xor p q)")
	_, e := s.Truth(true)
	is(t, "a full store", e, api.ErrSize)
	is(t, "Same", text(compared(t, s, 1, 2, -1, -1)), "sat p:0 0, q:0 1; 10, 1")
	is(t, "Same", text(compared(t, s, 3, 3, -1, -1)), "unsat; 1, 0")
	is(t, "Solve", text(solved(t, s, []int{3, 1}, -1, -1)), "sat p:0 1, q:0 0; 11, 0")
}
