package rup

import (
	"fmt"
	"math"
	"slices"
	"testing"

	"cadence/api"
)

// picker tells numbers that look like chance, the same ones in each run.
type picker uint64

func (p *picker) below(n int) int {
	*p ^= *p << 13
	*p ^= *p >> 7
	*p ^= *p << 17
	return int(uint64(*p>>11) % uint64(n))
}

func (p *picker) literal(vars int) int {
	if p.below(2) == 0 {
		return -1 - p.below(vars)
	}
	return 1 + p.below(vars)
}

// clause: of at least one literal, if there are variables; some may stand twice, or with their opposites.
func (p *picker) clause(vars int) api.Clause {
	var c api.Clause
	if vars == 0 {
		return c
	}
	for range 1 + p.below(3) {
		c = append(c, p.literal(vars))
	}
	return c
}

// formula: of at most so many clauses, none of them empty.
func (p *picker) formula(vars, clauses int) api.Formula {
	f := api.Formula{Vars: vars}
	if vars == 0 {
		return f
	}
	for range p.below(clauses + 1) {
		f.Clauses = append(f.Clauses, p.clause(vars))
	}
	return f
}

// mixed: a clause that is the same, in another order, with some literals once more.
func (p *picker) mixed(c api.Clause) api.Clause {
	out := slices.Clone(c)
	for len(c) > 0 && p.below(3) == 0 {
		out = append(out, c[p.below(len(c))])
	}
	for i := range out {
		k := i + p.below(len(out)-i)
		out[i], out[k] = out[k], out[i]
	}
	return out
}

// proof: steps for a formula, most of which are right.
func (p *picker) proof(f api.Formula, steps int) []api.Step {
	var out []api.Step
	there := slices.Clone(f.Clauses)
	for range p.below(steps + 1) {
		s := p.step(f.Vars, there)
		out = append(out, s)
		there, _ = plainStep(f.Vars, there, s)
	}
	return out
}

// step: one that is right at some clauses, but now and then; few of them add the empty clause.
func (p *picker) step(vars int, there []api.Clause) api.Step {
	kind := p.below(100)
	switch {
	case kind < 1:
		return drop(p.clause(vars)...)
	case kind < 2:
		return add(p.clause(vars)...)
	case kind < 3:
		return api.Step{Drop: p.below(2) == 0, Clause: append(p.clause(vars), noLiterals(vars)[p.below(len(noLiterals(vars)))])}
	case kind < 40 && len(there) > 0:
		return drop(p.mixed(there[p.below(len(there))])...)
	}
	for range 20 {
		c := p.clause(vars)
		if kind < 50 {
			c = nil
		}
		if plainFollows(vars, there, c) {
			return add(c...)
		}
	}
	if vars == 0 {
		return add()
	}
	return add(1, -1)
}

func add(c ...int) api.Step { return api.Step{Clause: c} }

func drop(c ...int) api.Step { return api.Step{Drop: true, Clause: c} }

// over: a formula of clauses that are written out.
func over(vars int, clauses ...api.Clause) api.Formula {
	return api.Formula{Vars: vars, Clauses: clauses}
}

// four: the formula of the chapter's examples.
func four() api.Formula {
	return over(2, api.Clause{1, 2}, api.Clause{1, -2}, api.Clause{-1, 2}, api.Clause{-1, -2})
}

// noLiterals: numbers that are no literals of so many variables.
func noLiterals(vars int) []int {
	return []int{0, vars + 1, -vars - 1, api.MaxVars + 1, -api.MaxVars - 1, math.MaxInt, math.MinInt, math.MinInt + 1, math.MaxInt32, math.MinInt32, 1 << 32, 1<<32 + 1, -1<<32 - 1}
}

// repeated: a clause of one literal, as often as it is told.
func repeated(l, times int) api.Clause { return slices.Repeat(api.Clause{l}, times) }

// pigeons: one more pigeon than holes, each in a hole, no two in one: it can not be.
func pigeons(holes int) api.Formula {
	f := api.Formula{Vars: (holes + 1) * holes}
	in := func(pigeon, hole int) int { return pigeon*holes + hole + 1 }
	for p := range holes + 1 {
		var somewhere api.Clause
		for h := range holes {
			somewhere = append(somewhere, in(p, h))
			for q := range p {
				f.Clauses = append(f.Clauses, api.Clause{-in(p, h), -in(q, h)})
			}
		}
		f.Clauses = append(f.Clauses, somewhere)
	}
	return f
}

// plainFollows: closes the values under which a clause is false by going through all clauses again and again.
func plainFollows(vars int, clauses []api.Clause, c api.Clause) bool {
	isFalse := make([]bool, 2*vars+1)
	for _, l := range c {
		isFalse[vars+l] = true
	}
	for again := true; again; {
		again = false
		for v := 1; v <= vars; v++ {
			if isFalse[vars+v] && isFalse[vars-v] {
				return true
			}
		}
	clauses:
		for _, d := range clauses {
			left := 0
			for _, l := range d {
				switch {
				case isFalse[vars+l]:
				case left != 0 && left != l:
					continue clauses
				default:
					left = l
				}
			}
			if left == 0 {
				return true
			}
			if !isFalse[vars-left] {
				isFalse[vars-left], again = true, true
			}
		}
	}
	return false
}

// plainSame: each literal of the one stands in the other.
func plainSame(a, b api.Clause) bool {
	within := func(a, b api.Clause) bool {
		return !slices.ContainsFunc(a, func(l int) bool { return !slices.Contains(b, l) })
	}
	return within(a, b) && within(b, a)
}

// plainStep: the clauses that are there behind a step, in the words of the chapter, but for the limits; or what is wrong with it.
func plainStep(vars int, there []api.Clause, s api.Step) ([]api.Clause, api.Errno) {
	if s.Drop {
		i := slices.IndexFunc(there, func(c api.Clause) bool { return plainSame(c, s.Clause) })
		if i < 0 {
			return there, api.ErrGone
		}
		return slices.Delete(slices.Clone(there), i, i+1), api.OK
	}
	for _, l := range s.Clause {
		if l == 0 || l > vars || l < -vars {
			return there, api.ErrLit
		}
	}
	if !plainFollows(vars, there, s.Clause) {
		return there, api.ErrStep
	}
	return append(slices.Clone(there), s.Clause), api.OK
}

// plainCheck: what Check must answer of a formula that may be, far from the limits.
func plainCheck(f api.Formula, p []api.Step) (int, api.Errno) {
	there := slices.Clone(f.Clauses)
	isEmpty := func(c api.Clause) bool { return len(c) == 0 }
	for i, s := range p {
		if slices.ContainsFunc(there, isEmpty) {
			return i, api.OK
		}
		var bad api.Errno
		there, bad = plainStep(f.Vars, there, s)
		if bad != api.OK {
			return i, bad
		}
	}
	if slices.ContainsFunc(there, isEmpty) {
		return len(p), api.OK
	}
	return len(p), api.ErrProof
}

// wantCheck: what Check answers.
func wantCheck(t *testing.T, what string, f api.Formula, p []api.Step, n int, bad api.Errno) {
	t.Helper()
	if gotN, got := Check(f, p); gotN != n || got != bad {
		t.Errorf("%s: %d, %v, not %d, %v", what, gotN, got, n, bad)
	}
}

// fits: does an assignment, the bit v - 1 of which is the variable v, make a clause true?
func fits(c api.Clause, bits int) bool {
	return slices.ContainsFunc(c, func(l int) bool {
		if l < 0 {
			return bits>>(-l-1)&1 == 0
		}
		return bits>>(l-1)&1 == 1
	})
}

// models: all assignments that make all clauses true.
func models(f api.Formula) []int {
	var out []int
	for bits := range 1 << f.Vars {
		if !slices.ContainsFunc(f.Clauses, func(c api.Clause) bool { return !fits(c, bits) }) {
			out = append(out, bits)
		}
	}
	return out
}

// clausesOver: all clauses over so many variables in which none stands twice.
func clausesOver(vars int) []api.Clause {
	all := []api.Clause{{}}
	for v := 1; v <= vars; v++ {
		for _, c := range slices.Clone(all) {
			all = append(all, append(slices.Clone(c), v), append(slices.Clone(c), -v))
		}
	}
	return all
}

// formulasOverTwo: all sets of clauses over two variables.
func formulasOverTwo() []api.Formula {
	clauses := clausesOver(2)
	var all []api.Formula
	for set := range 1 << len(clauses) {
		f := api.Formula{Vars: 2}
		for i, c := range clauses {
			if set>>i&1 == 1 {
				f.Clauses = append(f.Clauses, c)
			}
		}
		all = append(all, f)
	}
	return all
}

func sameProofs(a, b []api.Step) bool {
	return slices.EqualFunc(a, b, func(x, y api.Step) bool {
		return x.Drop == y.Drop && slices.Equal(x.Clause, y.Clause)
	})
}

// roomyClause: a copy with spare room that is written in, so that a change can be seen.
func roomyClause(c api.Clause) api.Clause {
	return append(append(make(api.Clause, 0, len(c)+2), c...), 77, 78)[:len(c)]
}

func roomyFormula(f api.Formula) api.Formula {
	g := api.Formula{Vars: f.Vars, Clauses: make([]api.Clause, 0, len(f.Clauses)+2)}
	for _, c := range f.Clauses {
		g.Clauses = append(g.Clauses, roomyClause(c))
	}
	g.Clauses = append(g.Clauses, api.Clause{79}, api.Clause{80})[:len(f.Clauses)]
	return g
}

func roomyProof(p []api.Step) []api.Step {
	q := make([]api.Step, 0, len(p)+2)
	for _, s := range p {
		q = append(q, api.Step{Drop: s.Drop, Clause: roomyClause(s.Clause)})
	}
	return append(q, add(81), drop(82))[:len(p)]
}

// shown: a formula and a proof with their spare room, as a text.
func shown(f api.Formula, p []api.Step) string {
	text := fmt.Sprintln(f.Vars, len(f.Clauses), cap(f.Clauses), len(p), cap(p))
	for _, c := range f.Clauses[:cap(f.Clauses)] {
		text += fmt.Sprintln(len(c), c[:cap(c)])
	}
	for _, s := range p[:cap(p)] {
		text += fmt.Sprintln(s.Drop, len(s.Clause), s.Clause[:cap(s.Clause)])
	}
	return text
}

// fill: writes over a list and its spare room, and grows it.
func fill[T any](list []T, with T) {
	list = list[:cap(list)]
	for i := range list {
		list[i] = with
	}
	_ = append(list, with)
}
