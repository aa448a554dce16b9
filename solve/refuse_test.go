package solve

import (
	"fmt"
	"math"
	"testing"

	"cadence/api"
	"cadence/term"
)

// budgets: numbers of clauses and decisions of all kinds.
var budgets = []int64{math.MinInt64, -1, 0, 1, 1000, math.MaxInt64}

// refused: Solve and Formula answer that error, and nothing beside it.
func refused(t *testing.T, s *term.Store, truths []int, want api.Errno) {
	t.Helper()
	what := fmt.Sprint(truths)
	for _, clauses := range budgets {
		for _, decisions := range budgets {
			r, e := Solve(s, truths, clauses, decisions)
			is(t, "Solve"+what, []any{text(r), r.Kind, r.Which, e}, []any{"kind 0; 0, 0", 0, 0, want})
		}
	}
	f, bits, e := Formula(s, truths)
	is(t, "Formula"+what, []any{f.Vars, f.Clauses == nil, bits == nil, e}, []any{0, true, true, want})
}

// refusedSame: Same likewise, in either order.
func refusedSame(t *testing.T, s *term.Store, a, b int, want api.Errno) {
	t.Helper()
	for range 2 {
		for _, clauses := range budgets {
			for _, decisions := range budgets {
				r, e := Same(s, a, b, clauses, decisions)
				is(t, fmt.Sprint("Same", a, b), []any{text(r), r.Kind, r.Which, e}, []any{"kind 0; 0, 0", 0, 0, want})
			}
		}
		a, b = b, a
	}
}

// No store, alone and beside other errors.
func TestNilStore(t *testing.T) {
	for _, truths := range [][]int{nil, {}, {1}, {0}, {-1}, {math.MaxInt}, {1, 99, 2}} {
		refused(t, nil, truths, api.ErrNil)
	}
	for _, pair := range [][]int{{1, 1}, {1, 2}, {0, 0}, {-1, 1}, {math.MinInt, math.MaxInt}} {
		refusedSame(t, nil, pair[0], pair[1], api.ErrNil)
	}
}

// noTerms: numbers that are no terms of a store.
func noTerms(s *term.Store) []int {
	return []int{0, -1, -2, math.MinInt, s.Len() + 1, s.Len() + 2, 1 << 32, 1<<32 + 1, math.MaxInt}
}

// Something that is no term: alone, first, last, among others, and beside what is no truth: ErrTerm is told first, for all truths.
func TestNoTerms(t *testing.T) {
	s := newStore(t)
	truth, word, bit := made(t, s, "(ult k:4 j:4)"), made(t, s, "k:4"), made(t, s, "b:1")
	last := made(t, s, "p")
	is(t, "the last term", last, s.Len())
	before := shown(s)
	for _, bad := range noTerms(s) {
		for _, truths := range [][]int{{bad}, {bad, truth}, {truth, bad}, {truth, bad, last}, {bad, bad}, {word, bad}, {bad, word}, {word, truth, bit, bad}, {truth, bad, word}} {
			refused(t, s, truths, api.ErrTerm)
		}
		for _, other := range []int{truth, word, bit, last, bad, 0, -1} {
			refusedSame(t, s, bad, other, api.ErrTerm)
		}
	}
	refused(t, &term.Store{}, []int{1}, api.ErrTerm)
	refusedSame(t, &term.Store{}, 1, 1, api.ErrTerm)
	is(t, "the store", shown(s), before)
	is(t, "the last one is a term", text(solved(t, s, []int{last}, -1, -1)), "sat p:0 1; 1, 0")
}

// A term that is no truth, of each width, alone and among truths.
func TestNoTruths(t *testing.T) {
	s := newStore(t)
	truth, false1 := made(t, s, "(ult k:4 j:4)"), made(t, s, "F")
	words := all(t, s, "b:1", "k:4", "1:1", "0:64", "(add k:4 j:4)", "(sub k:4 k:4)", "(slice k:4 0 1)", "x:63", "(ite p k:4 j:4)")
	before := shown(s)
	for _, word := range words {
		for _, truths := range [][]int{{word}, {word, truth}, {truth, word}, {false1, word}, {word, false1}, {truth, word, truth}, {word, word}} {
			refused(t, s, truths, api.ErrSort)
		}
	}
	is(t, "the store", shown(s), before)
}

// Two terms that are not of one sort: a truth and a word of one bit, words of unlike widths.
func TestUnlikeSorts(t *testing.T) {
	s := newStore(t)
	list := all(t, s, "p", "b:1", "k:4", "m:5", "x:63", "y:64")
	alike := all(t, s, "(not p)", "1:1", "(com k:4)", "0:5", "(neg x:63)", "0:64")
	before := shown(s)
	for i, a := range list {
		for k, b := range append(list, alike...) {
			if k%len(list) != i {
				refusedSame(t, s, a, b, api.ErrSort)
			} else {
				compared(t, s, a, b, -1, -1)
				compared(t, s, b, a, -1, -1)
			}
		}
	}
	is(t, "the store", shown(s), before)
}
