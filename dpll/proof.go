package dpll

import (
	"slices"

	"cadence/api"
)

// diary is what happened in a search, in short: the variable of each decision, and 0 of each conflict, behind which the last open decision is turned. The clauses of a proof hold far more, and a search that finds a model or is spent needs none, so they are made of it at the end.
type diary struct {
	lines []int32
}

func (d *diary) decision(v int) { d.lines = append(d.lines, int32(v)) }

func (d *diary) conflict() { d.lines = append(d.lines, 0) }

// proof: for each conflict the clause of the decisions that were open then, of a search that came to its end without a model.
func (d *diary) proof() []api.Step {
	var steps []api.Step
	var open []int
	for _, v := range d.lines {
		if v != 0 {
			open = append(open, int(v))
			continue
		}
		clause := make(api.Clause, len(open))
		copy(clause, open)
		slices.Sort(clause)
		steps = append(steps, api.Step{Clause: clause})
		open = open[:max(0, len(open)-1)]
	}
	return steps
}
