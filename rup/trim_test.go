package rup

import (
	"fmt"
	"slices"
	"testing"

	"cadence/api"
	"cadence/dpll"
)

// added: the steps that add among the first n.
func added(p []api.Step, n int) []api.Step {
	var q []api.Step
	for _, s := range p[:n] {
		if !s.Drop {
			q = append(q, s)
		}
	}
	return q
}

// isPart: are these some of the steps, in their order, as they stand there?
func isPart(some, all []api.Step) bool {
	for _, s := range all {
		if len(some) > 0 && sameProofs(some[:1], []api.Step{s}) {
			some = some[1:]
		}
	}
	return len(some) == 0
}

// wantTrim: that Trim answers what P503 says of a proof that Check accepts, and is far from the limits. It tells the steps that are left.
func wantTrim(t *testing.T, what string, f api.Formula, p []api.Step) []api.Step {
	t.Helper()
	n, bad := Check(f, p)
	if bad != api.OK {
		t.Fatalf("%s: no proof: %d, %v", what, n, bad)
	}
	got, bad := Trim(f, p)
	if bad != api.OK || !isPart(got, added(p, n)) || slices.ContainsFunc(got, func(s api.Step) bool { return s.Drop }) {
		t.Fatalf("%s: %v of %v, %v", what, got, p, bad)
	}
	if n, bad := Check(f, got); n != len(got) || bad != api.OK {
		t.Fatalf("%s: %v of %v is refused: %d, %v", what, got, p, n, bad)
	}
	return got
}

func TestTrim(t *testing.T) {
	units := over(3, api.Clause{1}, api.Clause{-1})
	chain := over(5, api.Clause{1}, api.Clause{-1, 2}, api.Clause{-2, 3}, api.Clause{-3, 4, 5}, api.Clause{-3, 4, -5}, api.Clause{-4, 5}, api.Clause{-4, -5})
	middle := over(5, api.Clause{1, 2}, api.Clause{1, -2}, api.Clause{-1, 3, 4}, api.Clause{-1, 3, -4}, api.Clause{-3, 5}, api.Clause{-3, -5})
	far := over(8, api.Clause{1, 2}, api.Clause{1, -2}, api.Clause{-1, 3}, api.Clause{-3, 4}, api.Clause{-4, 5, 6}, api.Clause{-3, -5, 6}, api.Clause{-6, 7, 8}, api.Clause{-6, 7, -8}, api.Clause{-6, -7, 8}, api.Clause{-6, -7, -8}, api.Clause{-6, 7})
	for _, c := range []struct {
		name string
		f    api.Formula
		p    []api.Step
		want []api.Step
	}{
		{"the example", four(), []api.Step{add(1), add(1, 2), add()}, []api.Step{add(1), add()}},
		{"the empty clause in the formula", over(2, nil), []api.Step{add(1), add()}, nil},
		{"the empty clause in the formula, no steps", over(0, nil), nil, nil},
		{"units that fight", units, []api.Step{add(2), add(-2), add(3, 1), add()}, []api.Step{add()}},
		{"the empty clause alone", units, []api.Step{add()}, []api.Step{add()}},
		{"steps behind the end", four(), []api.Step{add(1), add(), add(9), drop(8), add()}, []api.Step{add(1), add()}},
		{"what goes is left out", four(), []api.Step{add(1), drop(2, 1), add()}, []api.Step{add(1), add()}},
		{"what is both ways", four(), []api.Step{add(1, -1), add(2, 1, -2), add(1), add()}, []api.Step{add(1), add()}},
		{"what the formula has", four(), []api.Step{add(1, 2), add(-1, 2), add(1), add()}, []api.Step{add(1), add()}},
		{"twice the same", four(), []api.Step{add(1), add(1), add(1), add()}, []api.Step{add(1), add()}},
		{"behind a conflict", four(), []api.Step{add(1), add(2), add(-1), add(-2), add()}, []api.Step{add(1), add()}},
		{"it goes, and comes again", four(), []api.Step{add(1), drop(1), add(1), drop(-2, 1), add()}, []api.Step{add(1), add()}},
		{"by values that follow from steps", chain, []api.Step{add(3), add(4, -3), add(-3, -4), add(2), add()}, []api.Step{add(4, -3), add()}},
		{"a value at level 0 that a step needs, and the end does not", middle, []api.Step{add(1), add(3), add()}, []api.Step{add(1), add(3), add()}},
		{"that value's step comes again", middle, []api.Step{add(1), add(3), add(1), add()}, []api.Step{add(1), add(3), add()}},
		{"that value's step, and one that is true by it", middle, []api.Step{add(1), add(1, 5), add(4, 1), add(3, 1), add(3), add()}, []api.Step{add(1), add(3), add()}},
		{"a value far from the step that it needs", far, []api.Step{add(1), add(6), add()}, []api.Step{add(1), add(6), add()}},
		{"by a step that needs a step", chain, []api.Step{add(-3, 4), add(-3), add()}, []api.Step{add(-3, 4), add()}},
	} {
		got := wantTrim(t, c.name, c.f, c.p)
		if !sameProofs(got, c.want) {
			t.Errorf("%s: %v, not %v", c.name, got, c.want)
		}
	}
}

// TestTrimRefuses: Check's error, and nothing beside it.
func TestTrimRefuses(t *testing.T) {
	for _, p := range [][]api.Step{
		nil, {add()}, {add(1)}, {add(1), drop(1), add()}, {drop(3)}, {add(3)}, {add(0)}, {drop(1, 2), add(1)}, {add(1), add(repeated(1, api.MaxClause+1)...)},
	} {
		_, want := Check(four(), p)
		if got, bad := Trim(four(), p); len(got) != 0 || bad != want || bad == api.OK {
			t.Errorf("%v: %v, %v, not %v", p, got, bad, want)
		}
	}
}

// TestTrimLimits: without the taking away there are too many clauses, or literals; or just as many as there may be.
func TestTrimLimits(t *testing.T) {
	nothing := drop(3, -3)
	full, less, least := manyClauses(api.MaxClauses), manyClauses(api.MaxClauses-1), manyClauses(api.MaxClauses-2)
	lits, litsLess := manyLits(api.MaxLits), manyLits(api.MaxLits-1)
	for _, c := range []struct {
		name string
		f    api.Formula
		p    []api.Step
		want api.Errno
	}{
		{"full", full, []api.Step{nothing, nothing, add(1), add()}, api.ErrClauses},
		{"one less", less, []api.Step{nothing, add(1), add()}, api.ErrClauses},
		{"two less", least, []api.Step{nothing, add(1), add()}, api.OK},
		{"two less, more is added", least, []api.Step{add(1), nothing, add(1), nothing, add()}, api.ErrClauses},
		{"full of literals", lits, []api.Step{nothing, add(1), add()}, api.ErrClauses},
		{"one literal less", litsLess, []api.Step{nothing, add(1), add()}, api.OK},
		{"one literal less, and two added", litsLess, []api.Step{nothing, add(1, 1), add()}, api.ErrClauses},
		{"Check's error comes first", full, []api.Step{nothing, nothing, add(1), drop(2, 2)}, api.ErrGone},
	} {
		got, bad := Trim(c.f, c.p)
		if bad != c.want || bad != api.OK && len(got) != 0 || bad == api.OK && !sameProofs(got, []api.Step{add(1), add()}) {
			t.Errorf("%s: %v, %v, not %v", c.name, got, bad, c.want)
		}
	}
}

// TestTrimMany: proofs of any kind, with steps that take away and steps that nobody needs.
func TestTrimMany(t *testing.T) {
	p := picker(41)
	seen, shorter := 0, 0
	for seen < 3000 {
		vars := 1 + p.below(6)
		f := p.formula(vars, 5*vars)
		proof := p.proof(f, 30)
		n, bad := Check(f, proof)
		if bad != api.OK {
			if got, again := Trim(f, proof); len(got) != 0 || again != bad {
				t.Fatalf("%v, %v: %v, %v, not %v", f, proof, got, again, bad)
			}
			continue
		}
		seen++
		if got := wantTrim(t, fmt.Sprint(f), f, proof); len(got) < len(added(proof, n)) {
			shorter++
		}
	}
	if shorter < 500 {
		t.Errorf("only %d of %d were made shorter", shorter, seen)
	}
}

// learnt: a proof of short clauses that follow one behind the other, as they are found, some of which go again; nil, if the end is not found.
func (p *picker) learnt(f api.Formula) []api.Step {
	var proof []api.Step
	there := slices.Clone(f.Clauses)
	for range 400 {
		if plainFollows(f.Vars, there, nil) {
			return append(proof, add())
		}
		s := add(p.clause(f.Vars)...)
		if p.below(12) == 0 {
			s = drop(p.mixed(there[p.below(len(there))])...)
		}
		if next, bad := plainStep(f.Vars, there, s); bad == api.OK {
			there, proof = next, append(proof, s)
		}
	}
	return nil
}

// TestTrimLearnt: proofs with many values at level 0 on the way.
func TestTrimLearnt(t *testing.T) {
	p := picker(37)
	seen, ends := 0, 0
	for seen < 600 {
		vars := 4 + p.below(5)
		f := over(vars)
		for range 6 * vars {
			f.Clauses = append(f.Clauses, api.Clause{p.literal(vars), p.literal(vars), p.literal(vars)})
		}
		proof := p.learnt(f)
		if len(proof) < 3 {
			continue
		}
		seen++
		if len(wantTrim(t, fmt.Sprint(f), f, proof)) > 3 {
			ends++
		}
	}
	if ends < 100 {
		t.Errorf("only %d of %d needed more than three steps", ends, seen)
	}
}

// TestTrimDpll: proofs of searches, and with steps between that nobody needs: what the formula has, what is both ways, and wider ones.
func TestTrimDpll(t *testing.T) {
	p := picker(43)
	for range 1500 {
		vars := 2 + p.below(8)
		f := p.formula(vars, 6*vars)
		s, _ := dpll.Solve(f, -1)
		if s.Kind != api.Unsat {
			continue
		}
		wantTrim(t, fmt.Sprint(f), f, s.Proof)
		var more []api.Step
		for _, step := range s.Proof {
			more = append(more, add(f.Clauses[p.below(len(f.Clauses))]...), add(1, -1), add(append(api.Clause{-2}, step.Clause...)...), step)
		}
		got := wantTrim(t, fmt.Sprint(f), f, more)
		if slices.ContainsFunc(got, func(s api.Step) bool { return slices.Equal(s.Clause, api.Clause{1, -1}) }) {
			t.Fatalf("%v: %v", f, got)
		}
	}
	for holes := 1; holes <= 6; holes++ {
		f := pigeons(holes)
		s, _ := dpll.Solve(f, -1)
		wantTrim(t, fmt.Sprint(holes, " holes"), f, s.Proof)
	}
}

// TestTrimLong: many values at level 0, of which each step needs some.
func TestTrimLong(t *testing.T) {
	const n = 20000
	f := over(n+2, api.Clause{1})
	for v := 1; v < n; v++ {
		f.Clauses = append(f.Clauses, api.Clause{-v, v + 1})
	}
	f.Clauses = append(f.Clauses, api.Clause{-n, n + 1, n + 2}, api.Clause{-n, n + 1, -n - 2}, api.Clause{-n - 1, n + 2}, api.Clause{-n - 1, -n - 2})
	var p []api.Step
	for v := 2; v <= n; v++ {
		p = append(p, add(v, -n-1))
	}
	p = append(p, add(n+1), add())
	got := wantTrim(t, "a long chain", f, p)
	if !sameProofs(got, []api.Step{add(n + 1), add()}) {
		t.Errorf("%d steps are left", len(got))
	}
}
