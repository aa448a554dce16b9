package check

import (
	"fmt"
	"math"
	"strings"
	"testing"

	"cadence/api"
)

// TestTerms: weights are counted up to the instruction that would be too much, by hand (P2404).
func TestTerms(t *testing.T) {
	const s = "width 8; secret k; public n; var a[4]; out x; begin x = n + 1; a[0] = x; x = k ^ n; if n { x = a[n]; } end"
	// add 2, copy 2, store 8, xor 2, copy 2, if 2; Then: load 8, copy 2.
	for bound, used := range map[int64]int64{0: 0, 1: 0, 2: 2, 3: 2, 4: 4, 11: 4, 12: 12, 13: 12, 14: 14, 16: 16, 17: 16} {
		checked(t, s, bounded(api.CTerms, bound), fmt.Sprintf("Unknown which 2 at 0 code 0 used {1 %d 0 0}", used))
	}
	for bound, used := range map[int64]int64{18: 18, 25: 18, 26: 26, 27: 26} {
		checked(t, s, bounded(api.CTerms, bound), fmt.Sprintf("Unknown which 2 at 0 code 0 used {2 %d 0 0}", used))
	}
	for _, bound := range []int64{28, 29, 1 << 40, math.MaxInt64, -1, -2, math.MinInt64} {
		checked(t, s, bounded(api.CTerms, bound), "Secure which 0 at 0 code 0 used {2 28 0 0}")
	}
	// Else is counted behind Then, with what is left.
	const both = "width 8; secret k; public n; out x; begin if n { x = 1; } else { x = 2; x = 3; } x = 4; end"
	for bound, used := range map[int64]string{5: "{2 4 0 0}", 6: "{2 6 0 0}", 7: "{2 6 0 0}", 9: "{2 8 0 0}", 11: "{2 10 0 0}"} {
		checked(t, both, bounded(api.CTerms, bound), "Unknown which 2 at 0 code 0 used "+used)
	}
	checked(t, both, bounded(api.CTerms, 12), "Secure which 0 at 0 code 0 used {2 12 0 0}")
	// Nothing to do weighs nothing.
	for _, s := range []string{"begin end", "secret k; begin end", "out x; begin for i 3 3 { x = 1; } end"} {
		checked(t, s, bounded(api.CTerms, 0), "Secure which 0 at 0 code 0 used {1 0 0 0}")
		checked(t, s, budget(1, 0, 0, 0), "Secure which 0 at 0 code 0 used {1 0 0 0}")
	}
}

// TestTermsAhead: the weight of an instruction is asked ahead of its query, which is not made without it; what follows it, behind (P2404).
func TestTermsAhead(t *testing.T) {
	for _, b := range []api.Budget{bounded(api.CTerms, 1), budget(1, 1, 0, 0)} {
		checked(t, leaky, b, "Unknown which 2 at 0 code 0 used {1 0 0 0}")
		l, _ := Queries(right(t, leaky), b)
		is(t, "no query", len(l), 0)
	}
	comesTo(t, leaky, bounded(api.CTerms, 2), api.Leak)
	const s = "width 4; secret k; out x; const T[4] = 0, 0, 0, 0; begin if (k & 3) > 3 { x = 1; } x = T[k]; end"
	v := comesTo(t, s, noBound(), api.Leak)
	is(t, "weights: and, gt, if; copy, load, copy; load; ways", []int64{v.Used.Terms, v.Used.Paths}, []int64{6 + 12 + 8, 2})
	v = comesTo(t, s, bounded(api.CTerms, 25), api.Unknown)
	is(t, "Which and weights", []int64{int64(v.Which), v.Used.Terms}, []int64{api.CTerms, 6 + 12})
	v = comesTo(t, s, bounded(api.CTerms, 15), api.Unknown)
	is(t, "Which and weights", []int64{int64(v.Which), v.Used.Terms}, []int64{api.CTerms, 6 + 2})
}

// TestPaths: a way is counted when it begins; that of the next fork is what is asked (P2404).
func TestPaths(t *testing.T) {
	const s = "width 8; secret k; public n; public m; out x; begin if n { if m { x = 1; } } else { if m { x = 2; } } if n + m { } end"
	// if 2; Then: if 2; its Then: copy 2, add 2, if 2; its Else: add 2, if 2; Else likewise. Each of the four ways parts at its end.
	for bound, used := range map[int64]string{1: "{1 2 0 0}", 2: "{2 4 0 0}", 3: "{3 10 0 0}", 4: "{4 14 0 0}", 5: "{5 16 0 0}", 6: "{6 22 0 0}", 7: "{7 26 0 0}"} {
		checked(t, s, bounded(api.CPaths, bound), "Unknown which 1 at 0 code 0 used "+used)
	}
	for _, bound := range []int64{8, 9, math.MaxInt64, -1, -5, math.MinInt64} {
		checked(t, s, bounded(api.CPaths, bound), "Secure which 0 at 0 code 0 used {8 26 0 0}")
	}
	checked(t, s, budget(0, 0, 0, 0), "Unknown which 1 at 0 code 0 used {0 0 0 0}")
	checked(t, s, budget(0, -1, -1, -1), "Unknown which 1 at 0 code 0 used {0 0 0 0}")
	checked(t, "begin end", budget(0, -1, -1, -1), "Unknown which 1 at 0 code 0 used {0 0 0 0}")
	checked(t, "begin end", budget(1, -1, -1, -1), "Secure which 0 at 0 code 0 used {1 0 0 0}")
	// No fork where an if is settled.
	checked(t, "width 8; secret k; public n; out x; begin if 0 { x = 1; } if 3 { x = 2; } if n - n { x = 3; } if k | 1 { x = 4; } end", budget(1, -1, 0, 0), "Unknown which 3 at 0 code 0 used {1 14 0 0}")
	checked(t, "width 8; secret k; public n; out x; begin if 0 { x = 1; } if 3 { x = 2; } if n - n { x = 3; } end", budget(1, -1, 0, 0), "Secure which 0 at 0 code 0 used {1 10 0 0}")
}

// TestClauses: a query that has more clauses than are left is spent, and not counted; what is left gets less with each (P2404).
func TestClauses(t *testing.T) {
	w, a := wayTo(t, right(t, leaky))
	n := clausesOf(t, w, a.Truth)
	if n < 5 {
		t.Fatal("so few clauses: ", n)
	}
	for _, bound := range []int64{0, 1, n - 1} {
		checked(t, leaky, bounded(api.CClauses, bound), "Unknown which 3 at 0 code 0 used {1 2 0 0}")
	}
	for _, bound := range []int64{n, n + 1, math.MaxInt64, -1, -9, math.MinInt64} {
		v := comesTo(t, leaky, bounded(api.CClauses, bound), api.Leak)
		is(t, "clauses", v.Used.Clauses, n)
	}
	// Two queries: the second has only what the first left.
	const s = "width 4; secret k; const T[4] = 1, 2, 3, 4; out x; begin x = T[(k * k) & 2]; x = T[k * (k + 1) & 1]; end"
	v := comesTo(t, s, noBound(), api.Secure)
	first, _ := Queries(right(t, s), noBound())
	is(t, "queries", asked(first), "0 unsat 1, 1 unsat 1")
	w, a = wayTo(t, right(t, s))
	n = clausesOf(t, w, a.Truth)
	if n >= v.Used.Clauses {
		t.Fatal("all clauses in the first one: ", n, v.Used)
	}
	u := comesTo(t, s, bounded(api.CClauses, v.Used.Clauses-1), api.Unknown)
	is(t, "Which, clauses", []int64{int64(u.Which), u.Used.Clauses}, []int64{api.CClauses, n})
	l, _ := Queries(right(t, s), bounded(api.CClauses, v.Used.Clauses-1))
	is(t, "queries", asked(l), "0 unsat 1, 1 spent 1")
	u = comesTo(t, s, bounded(api.CClauses, n-1), api.Unknown)
	is(t, "Which, clauses", []int64{int64(u.Which), u.Used.Clauses}, []int64{api.CClauses, 0})
	comesTo(t, s, bounded(api.CClauses, v.Used.Clauses), api.Secure)
}

// TestDecisions: a query that makes as many decisions as are left, and would make one more, is spent; they count, and its clauses too (P2404).
func TestDecisions(t *testing.T) {
	v := comesTo(t, leaky, noBound(), api.Leak)
	all := v.Used.Decisions
	if all < 3 {
		t.Fatal("so few decisions: ", all)
	}
	for bound := range all {
		u := comesTo(t, leaky, bounded(api.CDecisions, bound), api.Unknown)
		is(t, "Which, counters", []any{u.Which, u.Used}, []any{api.CDecisions, budget(1, 2, v.Used.Clauses, bound)})
		l, _ := Queries(right(t, leaky), bounded(api.CDecisions, bound))
		is(t, "queries", asked(l), "0 spent 1")
	}
	for _, bound := range []int64{all, all + 1, math.MaxInt64, -1, -3, math.MinInt64} {
		u := comesTo(t, leaky, bounded(api.CDecisions, bound), api.Leak)
		is(t, "the same", same(u, v), true)
	}
	// Two queries: the second has only what the first left.
	const s = "width 4; secret k; out x; begin x = (k * k) & 2; if x { } x = (k * k) & 2; if x + x { } end"
	v = comesTo(t, s, noBound(), api.Secure)
	for bound := range v.Used.Decisions {
		u := comesTo(t, s, bounded(api.CDecisions, bound), api.Unknown)
		is(t, "Which, decisions", []int64{int64(u.Which), u.Used.Decisions}, []int64{api.CDecisions, bound})
	}
}

// TestNoClauses: a query with a clause or two and no decision needs just these (P2404).
func TestNoClauses(t *testing.T) {
	// (k | 1) == 0: the lowest bit is known when it is made clauses.
	const s = "width 4; secret k; out x; begin if k | 1 { x = 2; } end"
	l, v := Queries(right(t, s), noBound())
	is(t, "queries", asked(l), "0 unsat 1")
	is(t, "counters", v.Used.Decisions, 0)
	if v.Used.Clauses > 2 {
		t.Fatal("so many clauses: ", v.Used)
	}
	checked(t, s, bounded(api.CClauses, v.Used.Clauses-1), "Unknown which 3 at 0 code 0 used {1 4 0 0}")
	checked(t, s, bounded(api.CDecisions, 0), told(v))
}

// squares: a word that hangs on k by so many products; the query of it has more clauses with each.
func squares(n int) string {
	return "width 64; secret k; out x; begin x = k; " + strings.Repeat("x = x * x + k; ", n) + "if x { } end"
}

// TestRoom: a query that is greater than a formula may be is no counter's end: nothing of it counts, and no budget helps (P2404).
func TestRoom(t *testing.T) {
	p := right(t, squares(20))
	for _, b := range []api.Budget{noBound(), bounded(api.CClauses, 1), bounded(api.CDecisions, 0)} {
		v := Program(p, b)
		is(t, "a query without room", told(v), "Unknown which 5 at 0 code 0 used {1 124 0 0}")
		is(t, "it holds", Hold(text(squares(20)), v), true)
	}
	l, v := Queries(p, budget(7, 124, 0, 0))
	is(t, "queries", []any{asked(l), told(v)}, []any{"0 spent 1", "Unknown which 5 at 0 code 0 used {1 124 0 0}"})
	v = Program(right(t, squares(2)), bounded(api.CDecisions, 3))
	is(t, "one with room", []any{kindWord(v.Kind), v.Which, v.Used.Decisions, v.Used.Clauses > 10000}, []any{"Unknown", api.CDecisions, 3, true})
}
