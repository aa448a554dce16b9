package solve

import (
	"fmt"
	"slices"
	"testing"

	"cadence/aig"
	"cadence/api"
	"cadence/blast"
	"cadence/term"
)

// outcome: what Solve and Formula say of truths, in short: how the query ends, how many values there are, and the formula's size or error.
func outcome(t *testing.T, s *term.Store, truths []int, clauses, decisions int64) string {
	t.Helper()
	r := must[api.Result](t)(Solve(s, truths, clauses, decisions))
	f, bits, e := Formula(s, truths)
	is(t, "the bits", len(bits), f.Vars)
	values := len(r.Values)
	if r.Kind == api.Sat {
		r.Values = nil
	}
	return fmt.Sprintf("%s%d; %d, %d, %d", text(r), values, f.Vars, len(f.Clauses), e)
}

// wantNoRoom: Spent by CRoom, though the budget is 0, and the error of the formula.
func wantNoRoom(t *testing.T, s *term.Store, truths []int, e api.Errno) {
	t.Helper()
	is(t, "no room", outcome(t, s, truths, 0, 0), fmt.Sprintf("no room; 0, 00; 0, 0, %d", e))
}

// Just api.MaxClauses truths, each with a clause, and one more.
func TestMostTruths(t *testing.T) {
	t.Parallel()
	s := newStore(t)
	p, yes, no := made(t, s, "p"), made(t, s, "T"), made(t, s, "F")
	truths := slices.Repeat([]int{p}, api.MaxClauses)
	most := fmt.Sprintf("sat ; %d, 01; 1, %d, 0", api.MaxClauses, api.MaxClauses)
	is(t, "just room", outcome(t, s, truths, -1, 0), most)
	is(t, "just room", outcome(t, s, truths, api.MaxClauses, 0), most)
	is(t, "one less", outcome(t, s, truths, api.MaxClauses-1, 0), fmt.Sprintf("no clauses; 0, 00; 1, %d, 0", api.MaxClauses))
	is(t, "true needs no clause", outcome(t, s, append(truths, yes, yes), -1, 0), most)
	wantNoRoom(t, s, append(truths, p), api.ErrClauses)
	wantNoRoom(t, s, append(truths, no), api.ErrClauses)
	for _, most := range budgets {
		is(t, "no room", text(must[api.Result](t)(Solve(s, append(truths, p), most, most))), "no room; 0, 0")
	}
	wantNoRoom(t, s, slices.Repeat([]int{no}, api.MaxClauses+1), api.ErrClauses)
	is(t, "many", outcome(t, s, slices.Repeat([]int{yes}, api.MaxClauses+1), 0, 0), "sat ; 0, 00; 0, 0, 0")
	_, e := Solve(s, append(truths, p, s.Len()+1), 0, 0)
	is(t, "ErrTerm is first", e, api.ErrTerm)
	_, e = Solve(s, append(truths, p, made(t, s, "k:1")), 0, 0)
	is(t, "ErrSort is first", e, api.ErrSort)
}

// Just api.MaxClauses clauses of gates, and one more; the gates are a very deep chain.
func TestMostGates(t *testing.T) {
	t.Parallel()
	const gates = (api.MaxClauses - 1) / 3
	s := newStore(t)
	p, q := made(t, s, "p"), made(t, s, "q")
	x := made(t, s, "(and p q)")
	for i := range gates - 1 {
		not := must[int](t)(s.Un(api.OpNot, x))
		x = must[int](t)(s.Bin(api.OpAnd, not, []int{p, q}[i%2]))
	}
	is(t, "just room", outcome(t, s, []int{x}, api.MaxClauses, 1), fmt.Sprintf("sat ; %d, 12; %d, %d, 0", api.MaxClauses, gates+2, api.MaxClauses))
	wantNoRoom(t, s, []int{made(t, s, "F"), x}, api.ErrClauses)
	r := must[api.Result](t)(Same(s, x, made(t, s, "F"), -1, -1))
	is(t, "Same", []any{r.Kind, r.Clauses, len(r.Values)}, []any{api.Sat, api.MaxClauses, 2})
	longer := must[int](t)(s.Bin(api.OpAnd, must[int](t)(s.Un(api.OpNot, x)), []int{p, q}[gates%2]))
	is(t, "Same", text(must[api.Result](t)(Same(s, longer, made(t, s, "T"), 0, 0))), "no room; 0, 0")
}

// Just api.MaxVars variables, and one more.
func TestMostVariables(t *testing.T) {
	t.Parallel()
	s := newStore(t)
	truths := []int{}
	for i := range api.MaxVars + 1 {
		truths = append(truths, must[int](t)(s.Var(fmt.Sprint("p", i), 0)))
	}
	is(t, "just room", outcome(t, s, truths[1:], -1, 0), fmt.Sprintf("sat ; %d, 0%d; %d, %d, 0", api.MaxClauses, api.MaxVars, api.MaxVars, api.MaxClauses))
	wantNoRoom(t, s, truths, api.ErrVars)
}

// Words that are too great together: the variables are told first.
func TestManyWords(t *testing.T) {
	t.Parallel()
	const nodes = 64 + 63 // of each word: its inputs, and the gates of its eq
	s := newStore(t)
	truths := []int{}
	for i := range api.MaxVars/nodes + 1 {
		truths = append(truths, made(t, s, fmt.Sprintf("(eq x%d:64 %d:64)", i, i)))
	}
	wantNoRoom(t, s, truths, api.ErrVars)
	wantNoRoom(t, s, truths[1:], api.ErrClauses)
	few := api.MaxClauses / 190
	is(t, "few", outcome(t, s, truths[:few], -1, 0), fmt.Sprintf("sat ; %d, 0%d; %d, %d, 0", 190*few, few, nodes*few, 190*few))
	wantNoRoom(t, s, truths[:few+1], api.ErrClauses)
	bad := append(slices.Clone(truths), 0)
	refused(t, s, bad[len(bad)-1:], api.ErrTerm)
	_, e := Solve(s, bad, 0, 0)
	is(t, "ErrTerm is first", e, api.ErrTerm)
}

// A query of one truth that is greater than a formula may be: divisions of divisions.
func TestGreatCircuit(t *testing.T) {
	t.Parallel()
	s := newStore(t)
	x := made(t, s, "x:64")
	for i := range 6 {
		x = must[int](t)(s.Bin(api.OpDiv, x, made(t, s, fmt.Sprintf("y%d:64", i))))
	}
	truth := must[int](t)(s.Bin(api.OpEq, x, made(t, s, "3:64")))
	wantNoRoom(t, s, []int{truth}, api.ErrClauses)
	is(t, "Same", text(must[api.Result](t)(Same(s, x, made(t, s, "3:64"), -1, -1))), "no room; 0, 0")
}

// nearlyFull: a graph with room for so many nodes. (A query of its own would need far too many terms to fill one.)
func nearlyFull(t *testing.T, room int) *aig.Graph {
	t.Helper()
	g := aig.New()
	for g.Nodes() < api.MaxNodes-room {
		if _, e := g.Input(); e != api.OK {
			t.Fatalf("Input: %d of %d nodes", e, g.Nodes())
		}
	}
	return g
}

// stepsWith: to a formula, with a graph that is there already.
func stepsWith(t *testing.T, g *aig.Graph) []step {
	steps := stepsToFormula()
	steps[1] = func(q *query) {
		q.graph = g
		q.blaster = must[*blast.Blaster](t)(blast.New(q.asked.store, g))
	}
	return steps
}

// ErrSize: the graph of a query has no room, whatever the budget.
func TestNoRoomForTheGraph(t *testing.T) {
	t.Parallel()
	s := newStore(t)
	truths, pair := all(t, s, "p", "T", "(xor p q)", "(ult k:2 j:2)"), all(t, s, "k:2", "j:2")
	need := newPlain(t, s, truths).g.Nodes() - 1
	g := nearlyFull(t, 2*need-1)
	steps := stepsWith(t, g)
	q := query{given: terms{s, truths}}
	is(t, "room", []any{q.through(slices.Concat(stepsOfTruths(), steps)), g.Nodes()}, []any{api.OK, api.MaxNodes - need + 1})
	for _, x := range []struct {
		given []int
		steps []step
	}{
		{truths, slices.Concat(stepsOfTruths(), steps, stepsToResult())}, // one node less than it needs
		{truths, slices.Concat(stepsOfTruths(), steps, stepsToBits())},
		{pair, slices.Concat(stepsOfPair(), steps, stepsToResult())},
	} {
		for _, most := range []int64{-1, 0, 1000} {
			q := query{given: terms{s, x.given}, clauses: most, decisions: most}
			e := q.through(x.steps)
			is(t, "ErrSize", []any{e, text(q.result), q.result.Which}, []any{api.ErrSize, "kind 0; 0, 0", 0})
		}
	}
	only := query{given: terms{s, all(t, s, "T", "F")}, clauses: -1, decisions: -1}
	is(t, "what needs none", []any{only.through(slices.Concat(stepsOfTruths(), steps, stepsToResult())), text(only.result)}, "[cadence error 0 unsat; 1, 0]")
}
