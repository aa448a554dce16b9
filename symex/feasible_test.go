package symex

import (
	"fmt"
	"testing"

	"cadence/api"
	"cadence/simp"
	"cadence/solve"
)

// TestFeasible: ways that can be gone, and such that can not; what solve answers of their conditions, with all budgets (F22.6).
func TestFeasible(t *testing.T) {
	b := begin(t, program(t, "width 4; secret k; public n; out x; begin if k < n { if n < 2 { x = k; } else { if k == n { x = 1; } } } if x == 3 { x = 2; } end"))
	ways, _ := b.paths(99)
	kinds := map[int]int{}
	for i, p := range ways {
		for _, clauses := range []int64{-1, 0, 1, 10, 1000, -1 << 63, 1<<63 - 1} {
			for _, decisions := range []int64{-1, 0, 1, 5, 1000, -1 << 63, 1<<63 - 1} {
				what := fmt.Sprint("the way ", i, " with ", clauses, decisions)
				r, e := Feasible(b.m, p, clauses, decisions)
				want, _ := solve.Solve(b.m.Store(), p.Conds, clauses, decisions)
				is(t, what, []any{r, e}, []any{want, api.OK})
				if r.Kind == api.Sat {
					vals := withAll(r.Values, b.told(0, 0))
					for _, v := range b.values(p.Conds, vals) {
						is(t, what+": a condition", v, 1)
					}
					samePath(t, what, b.follow(vals), p)
				}
				kinds[r.Kind]++
			}
		}
	}
	if kinds[api.Sat] == 0 || kinds[api.Unsat] == 0 || kinds[api.Spent] == 0 {
		t.Fatal("not all kinds: ", kinds)
	}
}

// withAll: values, and those of others that are not among them.
func withAll(vals, others []api.Value) []api.Value {
	all := append([]api.Value(nil), vals...)
	for _, v := range others {
		there := false
		for _, w := range vals {
			there = there || v.Name == w.Name
		}
		if !there {
			all = append(all, v)
		}
	}
	return all
}

// TestFeasibleWays: what Feasible says of each way, against a search through all values (F22.6, P2202).
func TestFeasibleWays(t *testing.T) {
	for _, text := range []string{
		"if k { if k == 3 { x = 1; } } if k > 3 { x = 2; }",
		"for i 0 3 { if n == i { x = x + 1; } } if x == 2 { } if x { }",
		"if k * n == 6 { if k == 5 { } } if (k ^ n) & 1 { x = k / n; }",
		"a[k] = n; a[n] = k; if a[1] == k { if a[0] == 0 { } }",
	} {
		b := begin(t, program(t, "width 4; secret k; public n; out x; var a[2]; begin "+text+" end"))
		ways, _ := b.paths(99)
		gone := make([]bool, len(ways))
		for x := range uint64(256) {
			p := b.follow(b.told(x&15, x>>4))
			for i := range ways {
				if fmt.Sprint(ways[i]) == fmt.Sprint(p) {
					gone[i] = true
				}
			}
		}
		for i, p := range ways {
			r, e := Feasible(b.m, p, -1, -1)
			want := api.Unsat
			if gone[i] {
				want = api.Sat
			}
			is(t, fmt.Sprint(text, ": the way ", i), []any{r.Kind, e}, []any{want, api.OK})
		}
	}
}

// TestFeasibleEdges: a way without a condition, budgets that are spent, and wrong ways (F22.6).
func TestFeasibleEdges(t *testing.T) {
	m := simp.New()
	x, _ := m.Var("x", 4)
	five, _ := m.Const(4, 5)
	less, _ := m.Bin(api.OpUlt, x, five)
	some := plainTruth(m, 4, x)
	terms := m.Store().Len()
	sat := api.Result{Kind: api.Sat}
	for _, r := range []struct {
		conds              []int
		clauses, decisions int64
		want               api.Result
		e                  api.Errno
	}{
		{nil, -1, -1, sat, api.OK},
		{[]int{}, 0, 0, sat, api.OK},
		{[]int{less}, 0, -1, api.Result{Kind: api.Spent, Which: api.CClauses}, api.OK},
		{[]int{x}, -1, -1, api.Result{}, api.ErrSort},
		{[]int{less, five}, -1, -1, api.Result{}, api.ErrSort},
		{[]int{0}, -1, -1, api.Result{}, api.ErrTerm},
		{[]int{less, -1}, 0, 0, api.Result{}, api.ErrTerm},
		{[]int{1 << 40}, 0, 0, api.Result{}, api.ErrTerm},
	} {
		// Events and words are not looked at.
		got, e := Feasible(m, Path{Conds: r.conds, Events: []Event{{Kind: 9, X: -1}}, State: [][]int{{-7}}}, r.clauses, r.decisions)
		is(t, fmt.Sprint(r.conds), []any{got, e}, []any{r.want, r.e})
		is(t, "the terms", m.Store().Len(), terms)
	}
	got, e := Feasible(m, Path{Conds: []int{less, some}}, -1, 0)
	is(t, "no decision", []any{got.Kind, got.Which, e}, []any{api.Spent, api.CDecisions, api.OK})
	for _, none := range []*simp.Maker{nil, new(simp.Maker)} {
		for _, conds := range [][]int{nil, {less}, {-1}} {
			got, e := Feasible(none, Path{Conds: conds}, -1, -1)
			is(t, "no maker", []any{got, e}, []any{api.Result{}, api.ErrNil})
		}
	}
}
