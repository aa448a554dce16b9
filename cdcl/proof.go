package cdcl

import (
	"slices"

	"cadence/api"
)

// proof: up to the empty clause; nil, if it does not follow.
func (s *Solver) proof(empty *lemma) []api.Step {
	if empty == nil {
		return nil
	}
	return s.steps([]*lemma{empty})
}

// steps: lemmas, and those that they hang on, in the order in which they were learnt. One that is not wanted itself is taken away behind the last one that hangs on it: so few stand at one time, and a long proof is within rup's limits, too.
func (s *Solver) steps(wanted []*lemma) []api.Step {
	all := s.cone(wanted)
	slices.SortFunc(all, func(a, b *lemma) int { return a.number - b.number })
	for i, m := range all {
		for _, w := range m.why {
			w.until = i
		}
	}
	for _, m := range wanted {
		m.until = len(all)
	}
	var steps []api.Step
	for i, m := range all {
		steps = append(steps, api.Step{Clause: m.told()})
		for _, w := range m.why {
			if w.until == i && i < len(all)-1 {
				steps = append(steps, api.Step{Drop: true, Clause: w.told()})
			}
		}
	}
	return steps
}

// cone: lemmas, and all those that they hang on, each once.
func (s *Solver) cone(wanted []*lemma) []*lemma {
	s.round++
	var all []*lemma
	waiting := slices.Clone(wanted)
	for len(waiting) > 0 {
		m := waiting[len(waiting)-1]
		waiting = waiting[:len(waiting)-1]
		if m.round != s.round {
			m.round = s.round
			all = append(all, m)
			waiting = append(waiting, m.why...)
		}
	}
	return all
}

// told: as a clause of new memory.
func (c *clause) told() api.Clause {
	out := make(api.Clause, len(c.lits))
	for i, l := range c.lits {
		out[i] = literalOf(l)
	}
	return out
}
