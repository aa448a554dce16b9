package rup

import (
	"fmt"
	"slices"
	"testing"

	"cadence/api"
)

func TestCheck(t *testing.T) {
	units := over(2, api.Clause{1}, api.Clause{-1})
	twice := over(2, api.Clause{1, 2}, api.Clause{2, 1, 2}, api.Clause{-2})
	for _, c := range []struct {
		name string
		f    api.Formula
		p    []api.Step
		n    int
		want api.Errno
	}{
		{"the example", four(), []api.Step{add(1), add()}, 2, api.OK},
		{"the empty clause too early", four(), []api.Step{add()}, 0, api.ErrStep},
		{"nobody said so", four(), []api.Step{add(1)}, 1, api.ErrProof},
		{"something is taken away", four(), []api.Step{add(1), drop(2, 1), add()}, 3, api.OK},
		{"taken away twice", four(), []api.Step{drop(2, 1), drop(1, 2)}, 1, api.ErrGone},
		{"no literal", four(), []api.Step{add(3)}, 0, api.ErrLit},

		{"no steps", four(), nil, 0, api.ErrProof},
		{"no steps, no clauses", over(3), []api.Step{}, 0, api.ErrProof},
		{"no variables", over(0), nil, 0, api.ErrProof},
		{"no variables, the empty clause as a step", over(0), []api.Step{add()}, 0, api.ErrStep},
		{"no variables, a literal", over(0), []api.Step{add(1)}, 0, api.ErrLit},
		{"no variables, the empty clause taken away", over(0), []api.Step{drop()}, 0, api.ErrGone},
		{"no clauses, a clause", over(1), []api.Step{add(1)}, 0, api.ErrStep},
		{"no clauses, both ways", over(1), []api.Step{add(1, -1), add(-1, 1, 1), add(1)}, 2, api.ErrStep},

		{"the empty clause in the formula", over(0, nil), nil, 0, api.OK},
		{"the empty clause in the formula, steps that are wrong", over(2, api.Clause{1}, api.Clause{}), []api.Step{add(0), drop(7)}, 0, api.OK},
		{"the empty clause in the formula, and taken away", over(2, nil), []api.Step{drop(), add(9)}, 0, api.OK},
		{"the empty clause as the only step", units, []api.Step{add()}, 1, api.OK},
		{"units that fight, and nobody says so", units, nil, 0, api.ErrProof},
		{"units that fight: all follows", units, []api.Step{add(2), add(-2), add(2, -1)}, 3, api.ErrProof},

		{"wrong steps behind the end", four(), []api.Step{add(1), add(), add(9), drop(5), add(0)}, 2, api.OK},
		{"the empty clause twice", four(), []api.Step{add(1), add(), add()}, 2, api.OK},
		{"the empty clause taken away behind the end", four(), []api.Step{add(1), add(), drop()}, 2, api.OK},

		{"a literal twice", four(), []api.Step{add(1, 1), add()}, 2, api.OK},
		{"a literal twice, taken away as once", four(), []api.Step{add(1, 1), drop(1), add()}, 2, api.ErrStep},
		{"a literal once, taken away as thrice", four(), []api.Step{add(1), drop(1, 1, 1), add()}, 2, api.ErrStep},
		{"both ways is the same in any order", over(2, api.Clause{1, -1, 2}), []api.Step{drop(2, 1, -1, 2), drop(1, -1, 2)}, 1, api.ErrGone},
		{"another clause is not the same", over(2, api.Clause{1, 2}), []api.Step{drop(1)}, 0, api.ErrGone},
		{"a wider clause is not the same", over(2, api.Clause{1}), []api.Step{drop(1, 2)}, 0, api.ErrGone},
		{"the opposite is not the same", over(2, api.Clause{1, 2}), []api.Step{drop(1, -2)}, 0, api.ErrGone},

		{"there twice, taken away once", twice, []api.Step{drop(1, 2), add(1), add(1, -2)}, 3, api.ErrProof},
		{"there twice, taken away twice", twice, []api.Step{drop(1, 2), drop(2, 1), add(1)}, 2, api.ErrStep},
		{"there twice, taken away thrice", twice, []api.Step{drop(1, 2), drop(2, 1), drop(2, 1, 1)}, 2, api.ErrGone},
		{"taken away, then added, then taken away", twice, []api.Step{add(1), drop(1), add(1), drop(1), drop(1)}, 4, api.ErrGone},
		{"added twice, taken away twice", twice, []api.Step{add(1), add(1), drop(1), drop(1), drop(-2), add(1)}, 5, api.ErrStep},

		{"a step that follows only by a clause taken away", four(), []api.Step{drop(-2, 1), add(1)}, 1, api.ErrStep},
		{"the other clause still follows", four(), []api.Step{drop(-2, 1), add(-1)}, 2, api.ErrProof},
		{"a step that follows only by a step taken away", four(), []api.Step{add(1), drop(1), add()}, 2, api.ErrStep},
		{"a unit of the formula taken away", units, []api.Step{drop(1), add()}, 1, api.ErrStep},
		{"a value that followed from a unit taken away", over(3, api.Clause{1}, api.Clause{-1, 2}, api.Clause{-2, 3}), []api.Step{add(3), drop(3), drop(1), add(3)}, 3, api.ErrStep},
		{"a step keeps what its own ground has lost", over(3, api.Clause{1}, api.Clause{-1, 2}, api.Clause{-2, 3}), []api.Step{add(3), drop(1), add(3, 2), add(2)}, 3, api.ErrStep},
		{"a conflict that was, and is no more", over(2, api.Clause{1}, api.Clause{-1}), []api.Step{add(2), drop(-1), add(-2)}, 2, api.ErrStep},
		{"a conflict that comes back", over(2, api.Clause{1}, api.Clause{-1}), []api.Step{add(2), add(-2), drop(-1), drop(1), add()}, 5, api.OK},

		{"the step is the first wrong one", four(), []api.Step{add(1, 2), add(-1, 2), add(), add(0)}, 2, api.ErrStep},
		{"a wrong step behind one that does not follow", four(), []api.Step{add(1, 2), add(), drop(7), add(9)}, 1, api.ErrStep},
		{"gone ahead of one that does not follow", four(), []api.Step{drop(1, 2, 1), drop(7), add()}, 1, api.ErrGone},
	} {
		wantCheck(t, c.name, c.f, c.p, c.n, c.want)
		if n, bad := plainCheck(c.f, c.p); n != c.n || bad != c.want {
			t.Errorf("%s: the plain check tells %d, %v", c.name, n, bad)
		}
		for guards := range 3 {
			if n, bad := check(c.f, c.p, guards); n != c.n || bad != c.want {
				t.Errorf("%s, %d guards: %d, %v", c.name, guards, n, bad)
			}
		}
	}
}

// TestCheckLiterals: what is no literal is ErrLit of a step that adds, whether it follows or not; no clause that is there is the same as one with it.
func TestCheckLiterals(t *testing.T) {
	for _, vars := range []int{0, 1, 2, 5} {
		for _, l := range noLiterals(vars) {
			f := over(vars)
			if vars > 0 {
				f = over(vars, api.Clause{1})
			}
			wantCheck(t, fmt.Sprint("add ", l), f, []api.Step{add(l)}, 0, api.ErrLit)
			wantCheck(t, fmt.Sprint("drop ", l), f, []api.Step{drop(l)}, 0, api.ErrGone)
			if vars > 0 {
				wantCheck(t, fmt.Sprint("add 1 and ", l), f, []api.Step{add(1), add(1, l), add(0)}, 1, api.ErrLit)
				wantCheck(t, fmt.Sprint("add 1, -1 and ", l), f, []api.Step{add(1, -1, l)}, 0, api.ErrLit)
				wantCheck(t, fmt.Sprint("drop 1 and ", l), f, []api.Step{drop(1, l)}, 0, api.ErrGone)
			}
		}
	}
}

func TestCheckFormula(t *testing.T) {
	for _, c := range wrongFormulas() {
		for _, p := range [][]api.Step{nil, {add()}, {add(0)}, {drop(9)}, {add(1), add(1), add(0)}} {
			wantCheck(t, c.name, c.f, p, 0, c.want)
			if q, bad := Trim(c.f, p); len(q) != 0 || bad != c.want {
				t.Errorf("%s: Trim: %v, %v", c.name, q, bad)
			}
		}
	}
}

// TestMaxClause: the longest clause, and one beyond, with the error that comes first.
func TestMaxClause(t *testing.T) {
	f := over(2, api.Clause{1})
	long, over1 := repeated(1, api.MaxClause), repeated(1, api.MaxClause+1)
	wantCheck(t, "MaxClause", f, []api.Step{add(1), add(long...)}, 2, api.ErrProof)
	wantCheck(t, "MaxClause, which does not follow", f, []api.Step{add(repeated(2, api.MaxClause)...)}, 0, api.ErrStep)
	wantCheck(t, "one beyond", f, []api.Step{add(1), add(over1...)}, 1, api.ErrClause)
	wantCheck(t, "one beyond, which does not follow", f, []api.Step{add(repeated(2, api.MaxClause+1)...)}, 0, api.ErrClause)
	wantCheck(t, "one beyond, with no literal", f, []api.Step{add(append(slices.Clone(over1), 3)...)}, 0, api.ErrLit)
	wantCheck(t, "far beyond", f, []api.Step{add(repeated(1, 5*api.MaxClause)...)}, 0, api.ErrClause)

	// What is taken away has no limit of its own.
	wantCheck(t, "taken away by a longer clause", f, []api.Step{drop(over1...), add(1)}, 1, api.ErrStep)
	wantCheck(t, "taken away by a much longer clause", f, []api.Step{drop(repeated(1, 5*api.MaxClause)...), drop(1)}, 1, api.ErrGone)
	wantCheck(t, "a long clause taken away by a short one", f, []api.Step{add(long...), drop(1), drop(1), add(long...)}, 3, api.ErrStep)
	wantCheck(t, "no such long clause", f, []api.Step{drop(append(slices.Clone(over1), 2)...)}, 0, api.ErrGone)
}

// TestLongGoes: a clause of MaxClause literals, which has no room for one more, is taken away between others.
func TestLongGoes(t *testing.T) {
	f := over(api.MaxClause+2, api.Clause{1}, api.Clause{-1, 2}, api.Clause{-2, 3})
	long := make(api.Clause, api.MaxClause)
	for i := range long {
		long[i] = 3 + i
	}
	steps := []api.Step{add(3), add(long...), add(-4, 4), drop(-4, 4), drop(3), add(3, 9), drop(long...), add(2, 9), drop(9, 3), add(2)}
	wantCheck(t, "all of it", f, steps, len(steps), api.ErrProof)
	wantCheck(t, "gone then", f, append(slices.Clone(steps), drop(long...)), len(steps), api.ErrGone)
	wantCheck(t, "the ground of the last goes, too", f, append(slices.Clone(steps), drop(2), drop(1), add(3)), len(steps)+2, api.ErrStep)
	back := slices.Clone(long)
	slices.Reverse(back)
	wantCheck(t, "another order", f, append(slices.Clone(steps), add(long...), drop(back...), drop(1), drop(2), drop(2, 9), add(2)), len(steps)+5, api.ErrStep)
}

// TestLongNeeded: as long as such a clause is there it can be needed, ahead of all that go, between them, and behind them.
func TestLongNeeded(t *testing.T) {
	const vars = api.MaxClause + 1
	f := over(vars)
	long := api.Clause{-1}
	for v := 2; v <= api.MaxClause; v++ {
		f.Clauses = append(f.Clauses, api.Clause{-v, vars})
		long = append(long, v)
	}
	f.Clauses = append(f.Clauses, long, api.Clause{-1, 1}, api.Clause{2, -2}, api.Clause{3, -3})
	for _, c := range []struct {
		name string
		p    []api.Step
		want api.Errno
	}{
		{"ahead", []api.Step{add(-1, vars), drop(long...), drop(-1, 1)}, api.ErrProof},
		{"ahead of more", []api.Step{add(-1, vars), drop(-1, 1), drop(long...), drop(2, -2)}, api.ErrProof},
		{"behind", []api.Step{drop(-1, 1), add(1, -1), drop(1, -1), add(-1, vars), drop(-2, 2), drop(long...)}, api.ErrProof},
		{"between", []api.Step{add(-1, vars), drop(-1, 1), drop(vars, -1), add(-1, vars), drop(long...), add(-1, vars), drop(3, -3)}, api.ErrProof},
		{"gone", []api.Step{drop(-1, 1), drop(long...), add(-1, vars)}, api.ErrStep},
		{"gone behind another", []api.Step{add(-1, vars), drop(-1, 1), drop(long...), drop(-1, vars), add(-1, vars)}, api.ErrStep},
	} {
		wantN := len(c.p)
		if c.want == api.ErrStep {
			wantN--
		}
		wantCheck(t, c.name, f, c.p, wantN, c.want)
	}
}

// manyClauses: so many clauses, none of which says anything, ahead of the four of the example.
func manyClauses(count int) api.Formula {
	f := over(3)
	for len(f.Clauses) < count-4 {
		f.Clauses = append(f.Clauses, api.Clause{3, -3})
	}
	f.Clauses = append(f.Clauses, four().Clauses...)
	return f
}

func TestMaxClauses(t *testing.T) {
	full := manyClauses(api.MaxClauses)
	less := full
	less.Clauses = full.Clauses[1:]
	least := full
	least.Clauses = full.Clauses[2:]
	nothing := drop(-3, 3)
	for _, c := range []struct {
		name string
		f    api.Formula
		p    []api.Step
		n    int
		want api.Errno
	}{
		{"full, no steps", full, nil, 0, api.ErrProof},
		{"full, a clause", full, []api.Step{add(1)}, 0, api.ErrClauses},
		{"full, the empty clause", full, []api.Step{add()}, 0, api.ErrClauses},
		{"full, a clause that does not follow", full, []api.Step{add(3)}, 0, api.ErrClauses},
		{"full, no literal", full, []api.Step{add(4)}, 0, api.ErrLit},
		{"full, too long", full, []api.Step{add(repeated(1, api.MaxClause+1)...)}, 0, api.ErrClause},
		{"full, one goes", full, []api.Step{nothing, add(1), add()}, 2, api.ErrClauses},
		{"full, two go", full, []api.Step{nothing, nothing, add(1), add()}, 4, api.OK},
		{"full, one goes, then another", full, []api.Step{nothing, add(1), nothing, add()}, 4, api.OK},
		{"full, what goes is needed", full, []api.Step{drop(2, 1), add(1)}, 1, api.ErrStep},
		{"full, again and again", full, []api.Step{nothing, add(1), drop(1), add(2), drop(2), add(1, 3), drop(3, 1), add(1), nothing, add()}, 10, api.OK},
		{"full, again and again, then wrong", full, []api.Step{nothing, add(1), drop(1), add(2), drop(2), add(1, 3), drop(3, 1), add(3)}, 7, api.ErrStep},
		{"one less", less, []api.Step{add(1)}, 1, api.ErrProof},
		{"one less, and a clause too much", less, []api.Step{add(1), add(2)}, 1, api.ErrClauses},
		{"one less, and the empty clause too much", less, []api.Step{add(1), add()}, 1, api.ErrClauses},
		{"two less", least, []api.Step{add(1), add()}, 2, api.OK},
		{"two less, and what is wrong ahead", least, []api.Step{add(3), add(1), add(2), add(1)}, 0, api.ErrStep},
	} {
		wantCheck(t, c.name, c.f, c.p, c.n, c.want)
	}
}

// manyLits: literals up to so many, in clauses that say nothing, ahead of the four of the example.
func manyLits(count int) api.Formula {
	f := over(3)
	left := count - 8
	for left > 0 {
		c := append(repeated(3, min(left, api.MaxClause)-1), -3)
		f.Clauses = append(f.Clauses, c)
		left -= len(c)
	}
	f.Clauses = append(f.Clauses, four().Clauses...)
	return f
}

func TestMaxLits(t *testing.T) {
	full, less, least := manyLits(api.MaxLits), manyLits(api.MaxLits-1), manyLits(api.MaxLits-4)
	for _, c := range []struct {
		name string
		f    api.Formula
		p    []api.Step
		n    int
		want api.Errno
	}{
		{"full, no steps", full, nil, 0, api.ErrProof},
		{"full, the empty clause takes no room", full, []api.Step{add()}, 0, api.ErrStep},
		{"full, a clause", full, []api.Step{add(1)}, 0, api.ErrClauses},
		{"full, a clause that does not follow", full, []api.Step{add(3)}, 0, api.ErrClauses},
		{"full, no literal", full, []api.Step{add(1, 4)}, 0, api.ErrLit},
		{"full, too long", full, []api.Step{add(repeated(1, api.MaxClause+1)...)}, 0, api.ErrClause},
		{"full, one goes", full, []api.Step{drop(-3, 3), add(1), add()}, 3, api.OK},
		{"full, what goes is needed", full, []api.Step{drop(2, 1), add(1)}, 1, api.ErrStep},
		{"full, what goes is not needed", full, []api.Step{drop(2, -1), add(1), add(1), add(1)}, 3, api.ErrClauses},
		{"full, again and again", full, []api.Step{drop(2, -1), add(1), drop(1), add(1), add(-2, 1, 1), drop(-2, 1), drop(1, -2), add(1)}, 4, api.ErrClauses},
		{"full, again and again, none too much", full, []api.Step{drop(2, -1), add(1), drop(1), add(1), add(1), drop(1), drop(1), drop(1, -2), add(1)}, 8, api.ErrStep},
		{"one less", less, []api.Step{add(1), add()}, 2, api.OK},
		{"one less, and much will go", less, []api.Step{add(-1), drop(2, 1), drop(-2, 1), drop(-1), add(-1), drop(-3, 3), add()}, 6, api.ErrStep},
		{"one less, much will go, and all is needed", less, []api.Step{add(-1), add(), drop(2, 1), drop(-2, 1), drop(-1)}, 2, api.OK},
		{"one less, a clause of two", less, []api.Step{add(1, 2)}, 0, api.ErrClauses},
		{"one less, and a clause too much", less, []api.Step{add(1), add(1)}, 1, api.ErrClauses},
		{"some less", least, []api.Step{add(1, 3, 1), add(1), add()}, 3, api.OK},
		{"some less, what goes leaves its room", least, []api.Step{add(1, 3, 1), drop(1, 3), add(1, 1, 1, 1), drop(1), add(1, 1, 1, 1, 1)}, 4, api.ErrClauses},
		{"some less, and what is wrong ahead", least, []api.Step{add(3), add(1, 1, 1, 1, 1)}, 0, api.ErrStep},
	} {
		wantCheck(t, c.name, c.f, c.p, c.n, c.want)
	}
}

// TestCheckShort: all proofs of up to three short steps for all formulas of up to three short clauses over two variables.
func TestCheckShort(t *testing.T) {
	var steps []api.Step
	for _, c := range []api.Clause{{}, {1}, {-1}, {2}, {1, 2}, {2, 1, 1}, {-1, 2}, {1, -1}, {3}} {
		steps = append(steps, add(c...), drop(c...))
	}
	clauses := []api.Clause{{1}, {-1}, {1, 2}, {-2}, {2, -1}}
	var formulas []api.Formula
	for _, a := range clauses {
		formulas = append(formulas, over(2, a))
		for _, b := range clauses {
			formulas = append(formulas, over(2, a, b))
			for _, c := range clauses {
				formulas = append(formulas, over(2, a, b, c))
			}
		}
	}
	for _, f := range formulas {
		for _, a := range steps {
			for _, b := range steps {
				for _, c := range steps {
					p := []api.Step{a, b, c}
					n, bad := check(f, p, api.MaxVars)
					if wantN, want := plainCheck(f, p); n != wantN || bad != want {
						t.Fatalf("%v, %v: %d, %v, not %d, %v", f, p, n, bad, wantN, want)
					}
				}
			}
		}
	}
}

// TestCheckMany: longer proofs, most steps of which are right, with few guards and with many.
func TestCheckMany(t *testing.T) {
	p := picker(19)
	count := map[api.Errno]int{}
	longest := 0
	for range 6000 {
		vars := p.below(6)
		f := p.formula(vars, 4*vars)
		proof := p.proof(f, 40)
		wantN, want := plainCheck(f, proof)
		count[want]++
		longest = max(longest, wantN)
		for _, guards := range []int{0, 1, 2, 5, api.MaxVars} {
			if n, bad := check(f, proof, guards); n != wantN || bad != want {
				t.Fatalf("%v, %v, %d guards: %d, %v, not %d, %v", f, proof, guards, n, bad, wantN, want)
			}
		}
		if n, bad := Check(f, proof); n != wantN || bad != want {
			t.Fatalf("%v, %v: %d, %v, not %d, %v", f, proof, n, bad, wantN, want)
		}
	}
	for _, bad := range []api.Errno{api.OK, api.ErrGone, api.ErrLit, api.ErrStep, api.ErrProof} {
		if count[bad] < 100 {
			t.Errorf("%v came %d times", bad, count[bad])
		}
	}
	if longest < 30 {
		t.Errorf("no proof went beyond %d steps", longest)
	}
}

// TestGoesOften: in proofs without an empty clause all clauses go and come again and again; what follows is asked at each place.
func TestGoesOften(t *testing.T) {
	p := picker(29)
	for range 400 {
		vars := 1 + p.below(5)
		f := p.formula(vars, 5*vars)
		there := slices.Clone(f.Clauses)
		var proof []api.Step
		for range 60 {
			s := add(p.clause(vars)...)
			if len(there) > 0 && p.below(2) == 0 {
				s = drop(p.mixed(there[p.below(len(there))])...)
			}
			next, bad := plainStep(vars, there, s)
			if bad != api.OK {
				n, got := check(f, append(slices.Clone(proof), s), p.below(8))
				if n != len(proof) || got != bad {
					t.Fatalf("%v, %v, %v: %d, %v", f, proof, s, n, got)
				}
				continue
			}
			there, proof = next, append(proof, s)
		}
		for guards := range 8 {
			if n, bad := check(f, proof, guards); n != len(proof) || bad != api.ErrProof {
				t.Fatalf("%v, %v, %d guards: %d, %v", f, proof, guards, n, bad)
			}
		}
	}
}

// TestManyGo: many clauses come and go one by one beside a great formula.
func TestManyGo(t *testing.T) {
	for _, vars := range []int{60000, api.MaxVars} {
		f := over(vars)
		for v := 1; v < 60000; v++ {
			f.Clauses = append(f.Clauses, api.Clause{-v, v + 1})
		}
		var p []api.Step
		for v := 1; v < 20000; v++ { // what leads from v + 1 to v + 2 is still there
			p = append(p, add(-v, v+2), drop(v+1, -v))
		}
		wantCheck(t, "all of it", f, p, len(p), api.ErrProof)
		p = append(p, add(-1, 2))
		wantCheck(t, "what went", f, p, len(p)-1, api.ErrStep)
		p[len(p)-1] = add(-1, 60000)
		wantCheck(t, "the whole chain", f, p, len(p), api.ErrProof)
	}
}

// TestManyGoBelowValues: many clauses go one by one while a step that stays has given many values.
func TestManyGoBelowValues(t *testing.T) {
	const last = 60000
	f := over(last+2, api.Clause{1, last + 1}, api.Clause{1, -last - 1})
	for v := 1; v < last; v++ {
		f.Clauses = append(f.Clauses, api.Clause{-v, v + 1})
	}
	var p []api.Step
	for v := 2; v < 5000; v++ {
		p = append(p, add(v, -v, last+2), drop(last+2, v, -v))
		if v == 2500 {
			p = append(p, add(1))
		}
	}
	wantCheck(t, "all of it", f, p, len(p), api.ErrProof)
	wantCheck(t, "the values are there", f, append(slices.Clone(p), add(last)), len(p)+1, api.ErrProof)
	wantCheck(t, "the values go, too", f, append(slices.Clone(p), add(last), drop(last), drop(1), drop(last+1, 1), add(last)), len(p)+4, api.ErrStep)
}
