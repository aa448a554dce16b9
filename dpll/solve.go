// Package dpll is layer 4: formulas decided by trying, the least variable first. See shared/doc/04-dpll.md.
package dpll

import (
	"cadence/api"
	"cadence/cnf"
)

// mostModels: more than these Models does not gather.
const mostModels = 4096

// Solve: up to the first model (F4.1).
func Solve(f api.Formula, budget int64) (api.Search, api.Errno) {
	if _, bad := cnf.Check(f); bad != api.OK {
		return api.Search{}, bad
	}
	return one(newSearch(f, byNumber, budget)), api.OK
}

// Models: up to so many models (F4.2).
func Models(f api.Formula, most int, budget int64) ([][]int8, api.Search, api.Errno) {
	if _, bad := cnf.Check(f); bad != api.OK {
		return nil, api.Search{}, bad
	}
	if most < 1 || most > mostModels {
		return nil, api.Search{}, api.ErrArg
	}
	var all [][]int8
	s := newSearch(f, byNumber, budget)
	for m := range s.models() {
		all = append(all, m)
		if len(all) == most {
			break
		}
	}
	return all, s.told(), api.OK
}

// Least: some variables are decided first (F4.3).
func Least(f api.Formula, first []int, budget int64) (api.Search, api.Errno) {
	if _, bad := cnf.Check(f); bad != api.OK {
		return api.Search{}, bad
	}
	order, ok := firstOf(first, f.Vars)
	if !ok {
		return api.Search{}, api.ErrArg
	}
	return one(newSearch(f, byList(order), budget)), api.OK
}

// one: a search up to its first model, with the proof if there is none.
func one(s *search) api.Search {
	s.diary = &diary{}
	var first []int8
	for m := range s.models() {
		first = m
		break
	}
	out := s.told()
	out.Model = first
	if out.Kind == api.Unsat {
		out.Proof = s.diary.proof()
	}
	return out
}
