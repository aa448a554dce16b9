package rup

import (
	"cadence/api"
	"cadence/prop"
)

// use is a thing that a step follows by: a step ahead of it (0 is the first), or, with a minus, a variable that has its value at level 0. (What such a value follows by the engine knows: it need not be told for each step again.)
type use int32

// tracer takes steps that add, and keeps what each follows by.
type tracer struct {
	engine *prop.Engine
	byText map[string]int32 // the steps by their clauses' texts, but those whose clause the formula has

	uses   []use // of all steps, one behind the other
	starts []int // where those of each step begin

	open []int   // variables that are still to be looked at
	seen []int32 // by variables: the number of the step (1 is the first) for which it was looked at last
	text []byte  // room for a clause's text
}

func newTracer(f api.Formula, q []api.Step) *tracer {
	t := &tracer{engine: engineOf(f), byText: map[string]int32{}, seen: make([]int32, f.Vars+1)}
	for i, s := range q {
		if _, found := t.step(s.Clause); !found {
			t.byText[string(t.text)] = int32(i)
		}
	}
	for _, c := range f.Clauses {
		if _, found := t.step(c); found {
			delete(t.byText, string(t.text))
		}
	}
	return t
}

// step: the first one that adds this clause, as it stands; none, if the formula has it.
func (t *tracer) step(c api.Clause) (int32, bool) {
	t.text = appendLiterals(t.text[:0], c)
	i, found := t.byText[string(t.text)]
	return i, found
}

// traceAll: takes steps up to a conflict at level 0, and tells how many it took. From there on every clause follows, by none of the steps behind.
func (t *tracer) traceAll(q []api.Step) int {
	for i, s := range q {
		if !t.engine.Propagate() {
			return i
		}
		t.trace(s.Clause)
		t.engine.Add(s.Clause...)
	}
	t.engine.Propagate()
	return len(q)
}

// trace: keeps what a clause follows by: the clause that is false with its opposite, the reasons of the values that make it so, the reasons of theirs, and so on down to level 0. (Of one that is true at level 0, or always, nothing need be kept: no step will follow by it.)
func (t *tracer) trace(c api.Clause) {
	t.starts = append(t.starts, len(t.uses))
	if oppose(t.engine, c) {
		t.engine.Propagate()
		t.clause(t.engine.Conflict())
	}
	for len(t.open) > 0 {
		v := t.open[len(t.open)-1]
		t.open = t.open[:len(t.open)-1]
		if t.engine.LevelOf(v) == 0 {
			t.uses = append(t.uses, use(-v))
		} else {
			t.clause(t.engine.Reason(v))
		}
	}
	t.engine.Back(0)
}

// clause: one that the step follows by, with the values of its variables. (Of a decision's reason, nil, there is nothing to keep.)
func (t *tracer) clause(c api.Clause) {
	if i, found := t.step(c); found {
		t.uses = append(t.uses, use(i))
	}
	for _, l := range c {
		t.look(l)
	}
}

// look: the variable of a literal is to be looked at, once for a step.
func (t *tracer) look(l int) {
	v, now := max(l, -l), int32(len(t.starts))
	if t.seen[v] != now {
		t.seen[v] = now
		t.open = append(t.open, v)
	}
}

// usesOf: what a step follows by.
func (t *tracer) usesOf(i int) []use {
	if i+1 < len(t.starts) {
		return t.uses[t.starts[i]:t.starts[i+1]]
	}
	return t.uses[t.starts[i]:]
}
