package check

import (
	"fmt"
	"testing"

	"cadence/api"
	"cadence/lang"
)

// TestQueries: their events, truths and kinds, in order, by hand (F24.3).
func TestQueries(t *testing.T) {
	l, v := Queries(right(t, leaky), noBound())
	is(t, "verdict", same(v, Program(right(t, leaky), noBound())), true)
	sameQueries(t, leaky, l, []Query{{Events: 0, Truths: []string{"1 var x0 4\n2 const 4 0\n3 eq 1 2\n4 var y0 4\n5 eq 4 2\n6 xor 3 5\nroots 6\n"}, Kind: api.Sat}})

	const s = "width 4; secret k; public n; out x; const T[4] = 1, 2, 3, 4; begin x = k & 1; release x; if n { x = T[(k * k) & 2]; } else { x = n / k; } end"
	const (
		released = "1 var x0 4\n2 const 4 1\n3 band 1 2\n4 var y0 4\n5 band 4 2\n6 eq 3 5\nroots 6\n"
		then     = "1 var p1 4\n2 const 4 0\n3 eq 1 2\n4 not 3\nroots 4\n"
		other    = "1 var p1 4\n2 const 4 0\n3 eq 1 2\nroots 3\n"
		lines    = "1 var x0 4\n2 mul 1 1\n3 const 4 2\n4 band 2 3\n5 slice 4 0 2\n6 var y0 4\n7 mul 6 6\n8 band 7 3\n9 slice 8 0 2\n10 eq 5 9\n11 not 10\nroots 11\n"
		operands = "1 var x0 4\n2 var y0 4\n3 eq 1 2\n4 not 3\nroots 4\n"
	)
	both := []Query{{2, []string{released, then, lines}, api.Unsat}, {2, []string{released, other, operands}, api.Sat}}
	l, v = Queries(right(t, s), noBound())
	sameQueries(t, s, l, both)
	is(t, s, []any{kindWord(v.Kind), v.At}, []any{"Leak", 2})

	// One that is spent is the last.
	l, v = Queries(right(t, s), bounded(api.CDecisions, 0))
	sameQueries(t, s, l, []Query{{2, both[0].Truths, api.Spent}})
	is(t, s, []any{kindWord(v.Kind), v.Which}, []any{"Unknown", api.CDecisions})
	clauses := Program(right(t, s), noBound()).Used.Clauses
	l, v = Queries(right(t, s), bounded(api.CClauses, clauses-1))
	sameQueries(t, s, l, []Query{both[0], {2, both[1].Truths, api.Spent}})
	is(t, s, []any{kindWord(v.Kind), v.Which}, []any{"Unknown", api.CClauses})
	// One that is not reached is none.
	l, v = Queries(right(t, s), bounded(api.CPaths, 1))
	is(t, s, []any{len(l), kindWord(v.Kind), v.Which}, []any{0, "Unknown", api.CPaths})
	l, v = Queries(right(t, s), bounded(api.CTerms, 8+8))
	sameQueries(t, s, l, nil)
	is(t, s, []any{kindWord(v.Kind), v.Which, v.Used.Terms}, []any{"Unknown", api.CTerms, 2 + 2 + 2 + 2 + 2 + 2})
	l, v = Queries(right(t, s), bounded(api.CTerms, 12+10))
	sameQueries(t, s, l, both[:1])
	is(t, s, []any{kindWord(v.Kind), v.Which, v.Used.Terms}, []any{"Unknown", api.CTerms, 12 + 8 + 2})
}

// TestQueriesOfKinds: of one that is Secure all, of one that is refused none (F24.3).
func TestQueriesOfKinds(t *testing.T) {
	const s = "width 4; secret k; const T[4] = 1, 2, 3, 4; out x; begin x = T[(k * k) & 2]; x = T[k * (k + 1) & 1]; end"
	l, v := Queries(right(t, s), noBound())
	is(t, s, []any{asked(l), kindWord(v.Kind)}, []any{"0 unsat 1, 1 unsat 1", "Secure"})
	l, v = Queries(right(t, "secret k; out x; begin x = k; end"), noBound())
	is(t, "nothing to ask", []any{len(l), kindWord(v.Kind)}, []any{0, "Secure"})
	l, v = Queries(right(t, s), bounded(api.CPaths, 0))
	is(t, "no path", []any{len(l), told(v)}, []any{0, "Unknown which 1 at 0 code 0 used {0 0 0 0}"})
	l, v = Queries(parsed(t, "begin x = 1; end"), noBound())
	is(t, "refused", []any{len(l), v}, []any{0, api.Verdict{Kind: api.Reject, Code: api.ErrUnknown}})
	l, v = Queries(api.Program{}, noBound())
	is(t, "no program", []any{len(l), v}, []any{0, api.Verdict{Kind: api.Reject, Code: api.ErrArg}})
}

// TestManyAssumed: a truth that many queries assume has its text in each.
func TestManyAssumed(t *testing.T) {
	const s = "width 8; secret k[16]; const T[2] = 1, 2; out x; begin for i 0 16 { x = k[i] * k[0]; release x; x = T[x & 1]; } end"
	l, v := Queries(right(t, s), bounded(api.CDecisions, 1))
	is(t, "Kind", kindWord(v.Kind), "Secure")
	is(t, "queries", len(l), 16)
	for i, q := range l {
		is(t, "events, truths", []int{q.Events, len(q.Truths)}, []int{4*i + 3, i + 2})
		for j, text := range q.Truths[:i+1] {
			is(t, "an assumption", text, l[15].Truths[j])
		}
		is(t, "its own", q.Truths[i] != q.Truths[i+1], true)
	}
}

// TestWeighty: what is told of the queries is what the check asks, also of great programs: a leak behind many events.
func TestWeighty(t *testing.T) {
	s := "width 8; secret k; public n; var a[256]; out x; begin for i 0 200 { a[i] = k * i; x = x + a[n + i]; if k - k == i { x = 1; } } x = a[k]; end"
	l, v := Queries(right(t, s), budget(1000, -1, -1, 1000))
	is(t, "queries", []any{asked(l), kindWord(v.Kind), v.At}, []any{"600 sat 1", "Leak", 600})
	p, _, _ := lang.Parse(text(s))
	is(t, fmt.Sprint(v), same(v, Program(p, budget(1000, -1, -1, 1000))), true)
}
