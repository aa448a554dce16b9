package check

import "cadence/api"

// counters: by their numbers, from api.CPaths on: how far each went, and how far it may go.
type counters struct {
	used, bound [api.CDecisions + 1]int64
}

func newCounters(b api.Budget) *counters {
	return &counters{bound: [...]int64{api.CPaths: b.Paths, api.CTerms: b.Terms, api.CClauses: b.Clauses, api.CDecisions: b.Decisions}}
}

// left: what a counter may still grow by; -1, if it has no bound.
func (c *counters) left(which int) int64 {
	if c.bound[which] < 0 {
		return -1
	}
	return c.bound[which] - c.used[which]
}

// add: a counter grows, by no more than is left of it.
func (c *counters) add(which int, by int64) {
	c.used[which] += by
}

// told: how far they went.
func (c *counters) told() api.Budget {
	return api.Budget{Paths: c.used[api.CPaths], Terms: c.used[api.CTerms], Clauses: c.used[api.CClauses], Decisions: c.used[api.CDecisions]}
}
