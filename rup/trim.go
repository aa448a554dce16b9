package rup

import (
	"slices"

	"cadence/api"
)

// Trim: a proof of some of the steps that add (P503).
func Trim(f api.Formula, p []api.Step) ([]api.Step, api.Errno) {
	n, bad := Check(f, p)
	if bad != api.OK {
		return nil, bad
	}
	q := slices.DeleteFunc(slices.Clone(p[:n]), func(s api.Step) bool { return s.Drop })
	// With more clauses there each step follows as before, so only the limits can be in its way.
	if bad := planOf(f, q).fault; bad != api.OK {
		return nil, bad
	}
	if len(q) == 0 {
		return nil, api.OK
	}
	last := len(q) - 1
	var kept []api.Step
	for i, need := range needed(f, q[:last]) {
		if need {
			kept = append(kept, api.Step{Clause: slices.Clone(q[i].Clause)})
		}
	}
	return append(kept, api.Step{}), api.OK
}

// needed: which of some steps that add, behind which the formula comes to a conflict by units, are enough for that. A step follows by steps ahead of it alone: so, going backward, all that could need it were seen when it is reached.
func needed(f api.Formula, q []api.Step) []bool {
	t := newTracer(f, q)
	n := t.traceAll(q)
	m := marks{tracer: t, steps: make([]bool, len(q)), variables: make([]bool, f.Vars+1)}
	m.clause(t.engine.Conflict())
	m.values()
steps:
	for i := n - 1; i >= 0; i-- {
		if !m.steps[i] {
			continue steps
		}
		for _, u := range t.usesOf(i) {
			m.use(u)
		}
		m.values()
	}
	return m.steps
}

// marks are the steps that are needed, and the variables whose values at level 0 are.
type marks struct {
	tracer    *tracer
	steps     []bool
	variables []bool
	open      []int // variables whose reasons are still to be marked
}

// use: what a needed step follows by.
func (m *marks) use(u use) {
	if u < 0 {
		m.variable(int(-u))
	} else {
		m.steps[u] = true
	}
}

// clause: one that is needed at level 0, with the values of its variables.
func (m *marks) clause(c api.Clause) {
	if i, found := m.tracer.step(c); found {
		m.steps[i] = true
	}
	for _, l := range c {
		m.variable(max(l, -l))
	}
}

func (m *marks) variable(v int) {
	if !m.variables[v] {
		m.variables[v] = true
		m.open = append(m.open, v)
	}
}

// values: marks the reasons of all values that are needed.
func (m *marks) values() {
	for len(m.open) > 0 {
		v := m.open[len(m.open)-1]
		m.open = m.open[:len(m.open)-1]
		m.clause(m.tracer.engine.Reason(v))
	}
}
