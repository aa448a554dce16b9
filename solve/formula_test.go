package solve

import (
	"fmt"
	"testing"

	"cadence/api"
)

// Written by hand: the clauses, and what the variables are.
func TestFormulaByHand(t *testing.T) {
	for _, x := range []struct {
		truths []string
		want   string
	}{
		{nil, "{0 []} []"},
		{[]string{"T"}, "{0 []} []"},
		{[]string{"F"}, "{0 [[]]} []"},
		{[]string{"F", "T", "F"}, "{0 [[] []]} []"},
		{[]string{"p"}, "{1 [[1]]} [{p 0 0}]"},
		{[]string{"(not p)", "p", "(not (not p))"}, "{1 [[-1] [1] [1]]} [{p 0 0}]"},
		{[]string{"p", "F"}, "{1 [[1] []]} [{p 0 0}]"},
		{[]string{"(eq k:4 k:4)", "(and p p)"}, "{1 [[1]]} [{p 0 0}]"},
		{[]string{"q", "T", "p"}, "{2 [[1] [2]]} [{q 0 0} {p 0 0}]"},
		{[]string{"(and p q)"}, "{3 [[-3 1] [-3 2] [3 -1 -2] [3]]} [{p 0 0} {q 0 0} { 0 0}]"},
		{[]string{"q", "(and p q)"}, "{3 [[-3 2] [-3 1] [3 -2 -1] [1] [3]]} [{q 0 0} {p 0 0} { 0 0}]"},
		{[]string{"(or p q)"}, "{3 [[-3 -1] [-3 -2] [3 1 2] [-3]]} [{p 0 0} {q 0 0} { 0 0}]"},
		{[]string{"(eq p q)"}, "{5 [[-3 1] [-3 2] [3 -1 -2] [-4 -1] [-4 -2] [4 1 2] [-5 -3] [-5 -4] [5 3 4] [-5]]} [{p 0 0} {q 0 0} { 0 0} { 0 0} { 0 0}]"},
		{[]string{"(ult k:1 j:1)"}, "{6 [[-3 1] [-3 2] [3 -1 -2] [-4 -1] [-4 -2] [4 1 2] [-5 -3] [-5 -4] [5 3 4] [-6 5] [-6 2] [6 -5 -2] [6]]} [{k 1 0} {j 1 0} { 0 0} { 0 0} { 0 0} { 0 0}]"},
		// ule is made simple as not (ult j k), so that j's input is met first.
		{[]string{"(ule k:1 j:1)"}, "{6 [[-3 1] [-3 2] [3 -1 -2] [-4 -1] [-4 -2] [4 1 2] [-5 -3] [-5 -4] [5 3 4] [-6 5] [-6 2] [6 -5 -2] [-6]]} [{j 1 0} {k 1 0} { 0 0} { 0 0} { 0 0} { 0 0}]"},
		// Bits alone: of 8, of 64, in the order in which the cone meets them.
		{[]string{"(eq (slice k:8 3 1) 1:1)"}, "{1 [[1]]} [{k 8 3}]"},
		{[]string{"(eq (slice k:64 63 1) 0:1)", "(eq (slice k:64 1 1) 1:1)"}, "{2 [[-1] [2]]} [{k 64 63} {k 64 1}]"},
		{[]string{"(eq (band k:4 6:4) 2:4)"}, "{3 [[-3 1] [-3 -2] [3 -1 2] [3]]} [{k 4 1} {k 4 2} { 0 0}]"},
		{[]string{"(eq k:3 5:3)"}, "{5 [[-3 1] [-3 -2] [3 -1 2] [-5 3] [-5 4] [5 -3 -4] [5]]} [{k 3 0} {k 3 1} { 0 0} {k 3 2} { 0 0}]"},
		// add k 1 is 0 where k is 3.
		{[]string{"(eq (add k:2 1:2) 0:2)"}, "{3 [[-3 1] [-3 2] [3 -1 -2] [3]]} [{k 2 0} {k 2 1} { 0 0}]"},
	} {
		s := newStore(t)
		made(t, s, "(and q p)")
		f, bits := formed(t, s, all(t, s, x.truths...))
		is(t, fmt.Sprint(x.truths), fmt.Sprint(f, bits), x.want)
	}
}

// The chapter's words, call by call: the formula, its bits, and the numbers that Solve tells of it.
func TestAgainstThePlainQuery(t *testing.T) {
	p := picker(1302)
	inputs, gates := 0, 0
	for round := range 1500 {
		s := grown(t, &p, 10+round%40)
		truths := someTruths(&p, s, 5)
		want := newPlain(t, s, truths)
		f, bits := formed(t, s, truths)
		is(t, "Formula", []any{f, bits}, []any{want.f, want.bits})
		for _, b := range bits {
			if b == (Bit{}) {
				gates++
			} else {
				inputs++
			}
		}
		r := solved(t, s, truths, -1, -1)
		model, decisions := searched(f, make([]int8, f.Vars))
		is(t, "the search", []any{r.Kind == api.Sat, r.Clauses, r.Decisions}, []any{model != nil, len(f.Clauses), decisions})
	}
	if inputs < 1000 || gates < 1000 {
		t.Fatal(inputs, gates)
	}
}

// Each way to set the bits that the formula has makes the truths true just if units alone find a model.
func TestFormulaMeansTheTruths(t *testing.T) {
	p := picker(1305)
	for round := range 200 {
		s := grown(t, &p, 10+round%30)
		truths := someTruths(&p, s, 4)
		f, bits := formed(t, s, truths)
		for _, vals := range everyValue(variablesOf(t, s, truths)) {
			m := make([]int8, f.Vars)
			for _, v := range vals {
				for i, b := range bits {
					if b.Name == v.Name {
						is(t, "the width", b.W, v.W)
						m[i] = int8(v.Num>>b.Bit&1)*2 - 1
					}
				}
			}
			is(t, fmt.Sprint(vals), closed(f, m), allTrue(t, s, truths, vals))
		}
	}
}
