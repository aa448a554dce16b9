package solve

import (
	"fmt"
	"math"
	"slices"
	"testing"

	"cadence/api"
	"cadence/term"
)

// least: of the values that make all truths true those that the search must find: the bits that the formula has, in its order, false first, and all others 0.
func least(t testing.TB, s *term.Store, truths []int, bits []Bit) ([]api.Value, bool) {
	t.Helper()
	bits = slices.DeleteFunc(slices.Clone(bits), func(b Bit) bool { return b == Bit{} })
	for row := range 1 << len(bits) {
		vals := variablesOf(t, s, truths)
		for i, b := range bits {
			at := slices.IndexFunc(vals, func(v api.Value) bool { return v.Name == b.Name })
			vals[at].Num |= uint64(row>>(len(bits)-1-i)&1) << b.Bit
		}
		if allTrue(t, s, truths, vals) {
			return vals, true
		}
	}
	return nil, false
}

// P1305 over many small stores: the values against eval, Unsat against all values of all variables; and that the values are those of the least model.
func TestRight(t *testing.T) {
	p := picker(13)
	kinds, gone := [4]int{}, 0
	for round := range 4000 {
		s := grown(t, &p, 5+round%50)
		truths := someTruths(&p, s, 5)
		r := solved(t, s, truths, -1, -1)
		_, bits := formed(t, s, truths)
		kinds[r.Kind]++
		if r.Kind == api.Unsat {
			is(t, "Unsat", []any{r.Values == nil, possible(t, s, truths)}, "[true false]")
			continue
		}
		is(t, "the variables", unset(r.Values), variablesOf(t, s, truths))
		is(t, "all are true", allTrue(t, s, truths, r.Values), true)
		want, there := least(t, s, truths, bits)
		is(t, "the least", []any{there, r.Values}, []any{true, want})
		for _, v := range r.Values {
			if !slices.ContainsFunc(bits, func(b Bit) bool { return b.Name == v.Name }) {
				gone++
			}
		}
	}
	if kinds[api.Sat] < 1000 || kinds[api.Unsat] < 1000 || gone < 100 {
		t.Fatal(kinds, gone)
	}
}

// unset: the variables of some values, each as 0.
func unset(vals []api.Value) []api.Value {
	vars := slices.Clone(vals)
	for i := range vars {
		vars[i].Num = 0
	}
	return vars
}

// within: what the chapter says of a query with bounds, by what it takes without any.
func within(whole api.Result, clauses, decisions int64) string {
	switch {
	case clauses >= 0 && clauses < whole.Clauses:
		return "no clauses; 0, 0"
	case decisions >= 0 && decisions < whole.Decisions:
		return fmt.Sprintf("no decisions; %d, %d", whole.Clauses, decisions)
	}
	return text(whole)
}

// around: numbers around one that is just enough.
func around(enough int64) []int64 {
	return []int64{math.MinInt64, -1, 0, enough / 2, enough - 1, enough, enough + 1, math.MaxInt64}
}

// P1306 over many queries: what it took is enough, and so is more; one less is not; nothing goes beyond the numbers that were given.
func TestEnough(t *testing.T) {
	p := picker(1306)
	searched, most := 0, int64(0)
	for round := range 3000 {
		s := grown(t, &p, 5+round%60)
		truths := someTruths(&p, s, 3)
		whole := solved(t, s, truths, -1, -1)
		n := len(newPlain(t, s, truths).b.Inputs())
		if whole.Kind == api.Spent || whole.Decisions > 1<<n-1 {
			t.Fatalf("%s with %d bits", text(whole), n)
		}
		if whole.Decisions > 0 {
			searched++
			most = max(most, whole.Decisions)
		} else if round%10 > 0 {
			continue
		}
		for _, clauses := range around(whole.Clauses) {
			for _, decisions := range around(whole.Decisions) {
				r := solved(t, s, truths, clauses, decisions)
				is(t, fmt.Sprint(clauses, " ", decisions), text(r), within(whole, clauses, decisions))
				if clauses >= 0 && r.Clauses > clauses || decisions >= 0 && r.Decisions > decisions {
					t.Fatalf("%d, %d: %s", clauses, decisions, text(r))
				}
			}
		}
	}
	if searched < 200 || most < 7 {
		t.Fatal(searched, most)
	}
}

// Greater searches, of both kinds: spent at each decision and at each number of clauses that is too low.
func TestEachDecision(t *testing.T) {
	for _, x := range []struct {
		truths    []string
		kind      int
		decisions int64
	}{
		{[]string{"(ult k:3 j:3)", "(ult j:3 k:3)"}, api.Unsat, 6},
		{[]string{"(not (eq (add k:3 j:3) (add j:3 k:3)))"}, api.Unsat, 63}, // just 2 to the 6th less 1
		{[]string{"(not (eq (mul k:3 j:3) (mul j:3 k:3)))"}, api.Unsat, 42},
		{[]string{"(eq (mul k:4 k:4) 9:4)", "(ult 3:4 k:4)"}, api.Sat, 3},
		{[]string{"(eq (rem k:4 j:4) 5:4)", "(ult k:4 8:4)"}, api.Sat, 4},
		{[]string{"(eq (div k:4 j:4) 7:4)", "(not (eq j:4 1:4))", "(ult k:4 14:4)"}, api.Unsat, 5},
	} {
		s := newStore(t)
		truths := all(t, s, x.truths...)
		f, _ := formed(t, s, truths)
		_, decisions := searched(f, make([]int8, f.Vars))
		whole := solved(t, s, truths, -1, -1)
		is(t, fmt.Sprint(x.truths), []any{whole.Kind, whole.Decisions, decisions}, []any{x.kind, x.decisions, x.decisions})
		is(t, "true", whole.Kind == api.Unsat || allTrue(t, s, truths, whole.Values), true)
		for d := range whole.Decisions + 3 {
			is(t, fmt.Sprint(x.truths, d), text(solved(t, s, truths, whole.Clauses, d)), within(whole, whole.Clauses, d))
		}
		for c := range whole.Clauses + 3 {
			is(t, fmt.Sprint(x.truths, c), text(solved(t, s, truths, c, -1)), within(whole, c, -1))
		}
	}
}

// P1: the same calls have the same answers, whatever was asked between them.
func TestTheSameAgain(t *testing.T) {
	p := picker(1)
	s := grown(t, &p, 80)
	var asked [][]int
	var answers []string
	ask := func(truths []int) string {
		f, bits := formed(t, s, truths)
		r := solved(t, s, truths, -1, -1)
		d := solved(t, s, truths, -1, r.Decisions-1)
		return fmt.Sprint(f, bits, text(r), text(d), text(compared(t, s, truths[0], truths[len(truths)-1], -1, -1)))
	}
	for range 50 {
		truths := append(someTruths(&p, s, 3), s.Len()-slices.IndexFunc(backward(s), func(n api.Node) bool { return n.W == 0 }))
		asked, answers = append(asked, truths), append(answers, ask(slices.Clone(truths)))
	}
	for i, truths := range slices.Backward(asked) {
		is(t, "again", ask(truths), answers[i])
	}
}

// backward: the nodes of a store, the last one first.
func backward(s *term.Store) []api.Node {
	nodes := []api.Node{}
	for i := s.Len(); i > 0; i-- {
		nodes = append(nodes, nodeOf(s, i))
	}
	return nodes
}
