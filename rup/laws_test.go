package rup

import (
	"fmt"
	"slices"
	"testing"

	"cadence/api"
	"cadence/dpll"
)

// TestTrue: P505: what Check accepts has no model. (Of Follows TestFollowsMany asks the same.)
func TestTrue(t *testing.T) {
	p := picker(59)
	accepted := 0
	for range 8000 {
		vars := p.below(6)
		f := p.formula(vars, 5*vars)
		proof := p.proof(f, 12)
		proof = append(proof, add())
		_, bad := Check(f, proof)
		if bad != api.OK {
			continue
		}
		accepted++
		if m := models(f); len(m) > 0 {
			t.Fatalf("%v, %v: accepted, but it has models", f, proof)
		}
	}
	if accepted < 1000 {
		t.Errorf("only %d were accepted", accepted)
	}
}

// TestModelsStay: with a model no proof is accepted, whatever stands in it: each clause over few variables is tried at each place.
func TestModelsStay(t *testing.T) {
	clauses := clausesOver(2)
	for _, f := range formulasOverTwo() {
		if len(models(f)) == 0 {
			continue
		}
		for _, a := range clauses {
			for _, b := range clauses {
				for _, proof := range [][]api.Step{{add(a...), add(b...), add()}, {drop(a...), add(b...), add()}, {add(a...), drop(b...), add()}} {
					if n, bad := Check(f, proof); bad == api.OK {
						t.Fatalf("%v, %v: accepted at %d", f, proof, n)
					}
				}
			}
		}
	}
}

// TestDpll: P402: the proofs of searches are accepted, at their last step; without it, or without what a step needs, they are not.
func TestDpll(t *testing.T) {
	p := picker(61)
	seen := 0
	var formulas []api.Formula
	formulas = append(formulas, formulasOverTwo()...)
	for range 4000 {
		vars := p.below(10)
		formulas = append(formulas, p.formula(vars, 6*vars))
	}
	for holes := range 6 {
		formulas = append(formulas, pigeons(holes))
	}
	for _, f := range formulas {
		first := make([]int, f.Vars)
		for i := range first {
			first[i] = f.Vars - i
		}
		for _, order := range [][]int{nil, first} {
			s, _ := dpll.Least(f, order, -1)
			if s.Kind != api.Unsat {
				continue
			}
			seen++
			n, bad := Check(f, s.Proof)
			want := len(s.Proof)
			if slices.ContainsFunc(f.Clauses, func(c api.Clause) bool { return len(c) == 0 }) {
				want = 0
			}
			if n != want || bad != api.OK {
				t.Fatalf("%v, %v: %d, %v", f, s.Proof, n, bad)
			}
			if n, bad := Check(f, s.Proof[:len(s.Proof)-1]); want > 0 && (n != want-1 || bad != api.ErrProof) {
				t.Fatalf("%v without the last step: %d, %v", f, n, bad)
			}
		}
	}
	if seen < 2000 {
		t.Errorf("only %d proofs", seen)
	}
}

// TestDpllGoes: proofs of searches whose steps are taken away as soon as a shorter one is there.
func TestDpllGoes(t *testing.T) {
	for holes := 2; holes <= 6; holes++ {
		f := pigeons(holes)
		s, _ := dpll.Solve(f, -1)
		var proof []api.Step
		var stack []api.Clause
		for _, step := range s.Proof {
			proof = append(proof, step)
			for len(stack) > 0 && len(stack[len(stack)-1]) > len(step.Clause) && len(step.Clause) > 0 {
				top := slices.Clone(stack[len(stack)-1])
				slices.Reverse(top)
				proof = append(proof, drop(top...))
				stack = stack[:len(stack)-1]
			}
			stack = append(stack, step.Clause)
		}
		wantN, want := len(proof), api.OK
		for _, guards := range []int{3, 50, api.MaxVars} {
			if n, bad := check(f, proof, guards); n != wantN || bad != want {
				t.Errorf("%d holes, %d guards: %d, %v, not %d, %v", holes, guards, n, bad, wantN, want)
			}
		}
		wantTrim(t, fmt.Sprint(holes, " holes"), f, proof)
	}
}

// TestArguments: what is handed in stays as it is, its spare room too.
func TestArguments(t *testing.T) {
	p := picker(67)
	for range 1000 {
		vars := 1 + p.below(5)
		f := roomyFormula(p.formula(vars, 5*vars))
		proof := roomyProof(append(p.proof(f, 20), add()))
		ahead := shown(f, proof)
		Check(f, proof)
		Trim(f, proof)
		Text(proof)
		for _, s := range proof {
			Follows(f, s.Clause)
		}
		if after := shown(f, proof); after != ahead {
			t.Fatalf("changed:\n%s\n%s", ahead, after)
		}
	}
}

// TestOwn: what is handed out is the caller's: written over and grown, it changes neither what stands beside it, nor what was handed in, nor what comes later.
func TestOwn(t *testing.T) {
	p := picker(71)
	seen := 0
	for range 3000 {
		vars := 1 + p.below(5)
		f := roomyFormula(p.formula(vars, 6*vars))
		proof := roomyProof(append(p.proof(f, 10), add()))
		got, bad := Trim(f, proof)
		if bad != api.OK {
			continue
		}
		seen++
		ahead, right := shown(f, proof), fmt.Sprint(got)
		scribble(t, got)
		if after := shown(f, proof); after != ahead {
			t.Fatalf("changed:\n%s\n%s", ahead, after)
		}
		if again, _ := Trim(f, proof); fmt.Sprint(again) != right {
			t.Fatalf("%v, then %v", right, again)
		}
		n, _ := Check(f, proof)
		text := Text(proof[:n])
		read, _, _ := Parse(text)
		scribble(t, read)
		if again, _, _ := Parse(text); !sameProofs(again, proof[:n]) {
			t.Fatalf("%q: %v", text, again)
		}
	}
	if seen < 500 {
		t.Errorf("only %d proofs", seen)
	}
}

// scribble: writes over each clause of a proof, and looks whether the others stay as they are; then over the proof.
func scribble(t *testing.T, p []api.Step) {
	t.Helper()
	right := make([]api.Clause, len(p))
	for i, s := range p {
		right[i] = slices.Clone(s.Clause)
	}
	for i, s := range p {
		if !slices.Equal(s.Clause, right[i]) {
			t.Fatalf("the step %d was written over", i)
		}
		fill(s.Clause, 99)
	}
	fill(p, drop(5))
}

// TestAgain: the same calls answer the same, also side by side.
func TestAgain(t *testing.T) {
	f := pigeons(5)
	s, _ := dpll.Solve(f, -1)
	proof := s.Proof
	for i := len(proof) - 2; i > 0; i -= 7 {
		proof = slices.Insert(proof, i, add(f.Clauses[i%len(f.Clauses)]...), drop(f.Clauses[i%len(f.Clauses)]...))
	}
	tell := func() string {
		n, bad := Check(f, proof)
		q, worse := Trim(f, proof)
		return fmt.Sprint(n, bad, q, worse)
	}
	right := tell()
	answers := make(chan string)
	for range 6 {
		go func() { answers <- tell() }()
	}
	for range 6 {
		if got := <-answers; got != right {
			t.Errorf("another answer")
		}
	}
}
