package cnf

import (
	"slices"

	"cadence/api"
)

// Check: the first fault of a formula, and its place.
func Check(f api.Formula) (int, api.Errno) {
	if f.Vars < 0 || f.Vars > api.MaxVars {
		return -1, api.ErrVars
	}
	if len(f.Clauses) > api.MaxClauses {
		return -1, api.ErrClauses
	}
	room := api.MaxLits
	for k, c := range f.Clauses {
		if len(c) > api.MaxClause {
			return k, api.ErrClause
		}
		for _, l := range c {
			if !among(l, f.Vars) {
				return k, api.ErrLit
			}
		}
		if len(c) > room {
			return k, api.ErrClauses
		}
		room -= len(c)
	}
	return 0, api.OK
}

// among: is it a literal over the variables 1 to vars? Lit comes first, since the least int has no opposite.
func among(l, vars int) bool { return Lit(l) && variable(l) <= vars }

// Under: what an assignment says of a formula, and the place of the clause by which it does.
func Under(f api.Formula, m []int8) (int8, int, api.Errno) {
	if _, e := Check(f); e != api.OK {
		return 0, 0, e
	}
	value, place := int8(1), len(f.Clauses)
	for k, c := range f.Clauses {
		if x := Value(c, m); x < value {
			value, place = x, k
		}
	}
	return value, place, api.OK
}

// Assign: the formula in which a literal is true.
func Assign(f api.Formula, l int) (api.Formula, api.Errno) {
	if _, e := Check(f); e != api.OK {
		return api.Formula{}, e
	}
	if !among(l, f.Vars) {
		return api.Formula{}, api.ErrLit
	}
	left := api.Formula{Vars: f.Vars}
	for _, c := range f.Clauses {
		if !slices.Contains(c, l) {
			left.Clauses = append(left.Clauses, without(c, -l))
		}
	}
	return left, api.OK
}

// Tidy: the set clauses that are not twofold, each once.
func Tidy(f api.Formula) (api.Formula, api.Errno) {
	if _, e := Check(f); e != api.OK {
		return api.Formula{}, e
	}
	g := newGathering()
	for k, c := range f.Clauses {
		if set := setOf(c); !twofold(set) {
			g.add(set, k)
		}
	}
	return g.formula(f.Vars), api.OK
}

// gathering holds set clauses, each once, with the least place at which it came.
type gathering struct {
	clauses []placed
	byText  map[string]int // of each clause's text where it stands in clauses
	lits    int
	over    bool // there came more than a formula may hold
}

type placed struct {
	clause api.Clause
	place  int
}

func newGathering() *gathering { return &gathering{byText: map[string]int{}} }

// add keeps the clause itself: it must be new memory.
func (g *gathering) add(set api.Clause, place int) {
	text := string(appendLits(nil, set))
	if k, found := g.byText[text]; found {
		g.clauses[k].place = min(g.clauses[k].place, place)
		return
	}
	if len(g.clauses) == api.MaxClauses || len(set) > api.MaxLits-g.lits {
		g.over = true
		return
	}
	g.byText[text] = len(g.clauses)
	g.clauses = append(g.clauses, placed{set, place})
	g.lits += len(set)
}

// formula: the clauses by their places.
func (g *gathering) formula(vars int) api.Formula {
	slices.SortFunc(g.clauses, func(a, b placed) int { return a.place - b.place })
	f := api.Formula{Vars: vars}
	for _, x := range g.clauses {
		f.Clauses = append(f.Clauses, x.clause)
	}
	return f
}
