package cdcl

import (
	"container/heap"

	"cadence/api"
	"cadence/cnf"
)

// Least: a model that has the most of what is wanted, the first first (F6.4).
func Least(f api.Formula, want []int, budget int64) ([]int8, api.Search, api.Errno) {
	s, bad := New(f)
	if bad != api.OK {
		return nil, api.Search{}, bad
	}
	if !s.has(want) {
		return nil, api.Search{}, api.ErrLit
	}
	if !s.prefer(want) {
		return nil, api.Search{}, api.ErrArg
	}
	model, out := s.least(want, budget)
	return model, out, api.OK
}

// prefer: these literals are chosen ahead of others, in their order, and so that they are true; false, if they have a variable twice. A model has many of them then without being asked for.
func (s *Solver) prefer(want []int) bool {
	for i, l := range want {
		v := s.of(codeOf(l))
		if v.steady {
			return false
		}
		v.steady, v.positive, v.turn = true, l > 0, i-len(want)
	}
	heap.Init(&s.order)
	return true
}

// least: asks for one literal after the other, but for those that the model has anyway. What is settled of one becomes a clause, so the solver is of no use for others behind that.
func (s *Solver) least(want []int, budget int64) ([]int8, api.Search) {
	q := s.ask(nil, budget)
	out := q.told()
	if q.kind != api.Sat {
		out.Proof = s.proof(q.empty)
		return nil, out
	}
	model := q.model
	for _, l := range want {
		if cnf.Of(model, l) < 0 {
			q = s.ask([]int{l}, rest(budget, out.Conflicts))
			out.Decisions += q.decisions
			out.Conflicts += q.conflicts
			switch q.kind {
			case api.Spent:
				out.Kind = api.Spent
				return nil, out
			case api.Sat:
				model = q.model
			}
		}
		if cnf.Of(model, l) < 0 {
			l = -l
		}
		s.load(api.Clause{l})
	}
	return model, out
}

// rest: of a budget; below 0 there is no bound.
func rest(budget, used int64) int64 {
	if budget < 0 {
		return budget
	}
	return budget - used
}
