package cnf

import "cadence/api"

// Eliminate: the formula whose clauses with a variable are resolved by it, each with each.
func Eliminate(f api.Formula, v int) (api.Formula, api.Errno) {
	tidy, e := Tidy(f)
	if e != api.OK {
		return api.Formula{}, e
	}
	if v < 1 || v > f.Vars {
		return api.Formula{}, api.ErrLit
	}
	g := newGathering()
	var with, against []api.Clause
	for _, c := range tidy.Clauses {
		switch {
		case has(c, v):
			with = append(with, without(c, v))
		case has(c, -v):
			against = append(against, without(c, -v))
		default:
			g.add(c, len(g.clauses))
		}
	}
	if uint64(len(with))*uint64(len(against)) > api.MaxClauses {
		return api.Formula{}, api.ErrClauses
	}
	if e := g.join(with, against, f.Vars); e != api.OK {
		return api.Formula{}, e
	}
	if g.over {
		return api.Formula{}, api.ErrClauses
	}
	return g.formula(f.Vars), api.OK
}

// join adds what each of with and each of against say together, all of the first one of with ahead of all of the second one. All of them together may be far more than there is memory for: none is made that is known to be like another, nor any behind the first one that has no room, and each is told by what it has beyond one of its two clauses.
func (g *gathering) join(with, against []api.Clause, vars int) api.Errno {
	first := len(g.clauses)
	bases, others := with, against
	place := func(base, other int) int { return first + base*len(against) + other }
	if work(with, against) > work(against, with) {
		bases, others = against, with
		place = func(base, other int) int { return first + other*len(against) + base }
	}
	marks := make([]bool, 2*vars+2)
	for k, base := range bases {
		mark(marks, base, true)
		e := g.joinOne(base, others, marks, func(other int) int { return place(k, other) })
		mark(marks, base, false)
		if e != api.OK {
			return e
		}
	}
	return api.OK
}

// work: how many literals are looked at, if each of bases is held against all of others.
func work(bases, others []api.Clause) uint64 {
	lits := 0
	for _, c := range others {
		lits += len(c)
	}
	return uint64(len(bases)) * uint64(lits)
}

func mark(marks []bool, c api.Clause, on bool) {
	for _, l := range c {
		marks[rank(l)] = on
	}
}

// joinOne adds what base, whose literals are marked, says together with each of others.
func (g *gathering) joinOne(base api.Clause, others []api.Clause, marks []bool, place func(int) int) api.Errno {
	told := map[string]int{}
	var more api.Clause
	for k, c := range others {
		both := false
		more = more[:0]
		for _, l := range c {
			both = both || marks[rank(-l)]
			if !marks[rank(l)] {
				more = append(more, l)
			}
		}
		if len(base)+len(more) > api.MaxClause {
			return api.ErrClause
		}
		if both || g.over {
			continue
		}
		text := string(appendLits(nil, more))
		if _, found := told[text]; !found {
			told[text] = k
			g.add(union(base, more), place(k))
		}
	}
	return api.OK
}
