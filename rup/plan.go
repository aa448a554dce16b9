package rup

import (
	"math"
	"slices"

	"cadence/api"
)

// never: of a clause that stays.
const never = math.MaxInt

// plan is what a proof says of itself ahead of all units. That is told first, since who knows when a clause will be taken away can lay it so that this costs little.
type plan struct {
	all   []api.Clause // the formula's clauses, and behind them those that steps add
	until []int        // of each of them: the number of the taking away that takes it (0 is the first); never, if none does
	drops int          // how many steps take away
	bare  []int        // which of these take a clause that is too long for one more literal

	end   int       // how many steps are taken, if each clause that they add follows
	fault api.Errno // what ends the proof then: OK: the last of these adds the empty clause; ErrProof: there are no more; else what is wrong with the next one
}

// planOf: of a formula that may be.
func planOf(f api.Formula, p []api.Step) plan {
	if slices.ContainsFunc(f.Clauses, isEmpty) {
		return plan{}
	}
	b := newBook(f, p)
	for i, s := range p {
		var fault api.Errno
		if s.Drop {
			fault = b.drop(s.Clause)
		} else {
			fault = b.add(s.Clause)
		}
		if fault != api.OK {
			return b.ended(i, fault)
		}
		if isEmpty(s.Clause) {
			return b.ended(i+1, api.OK)
		}
	}
	return b.ended(len(p), api.ErrProof)
}

func isEmpty(c api.Clause) bool { return len(c) == 0 }

// unused: variables that no clause of the plan has, rising, beyond the formula's ones, too: one for each clause that is taken away, if there are as many, and at most so many.
func (p plan) unused(vars, most int) []int {
	most = min(most, p.drops)
	if most == 0 {
		return nil
	}
	used := make([]bool, vars+1)
	for _, c := range p.all {
		for _, l := range c {
			used[max(l, -l)] = true
		}
	}
	var unused []int
	for v := 1; v <= api.MaxVars && len(unused) < most; v++ {
		if v > vars || !used[v] {
			unused = append(unused, v)
		}
	}
	return unused
}

// book keeps which clauses are there while the steps of a proof are gone through.
type book struct {
	plan
	vars    int
	clauses int // how many are there
	lits    int // and their literals

	groups map[string]int // by the text of its literals, each once and in order: the group of each clause that a step takes away
	there  [][]int        // of each group: the places in all of those that are there

	set  []int // room for the literals of one clause, and for its text
	text []byte
}

func newBook(f api.Formula, p []api.Step) *book {
	b := &book{vars: f.Vars, groups: map[string]int{}}
	for _, s := range p {
		if s.Drop && b.group(s.Clause) < 0 {
			b.groups[string(b.text)] = len(b.there)
			b.there = append(b.there, nil)
		}
	}
	for _, c := range f.Clauses {
		b.keep(c)
	}
	return b
}

// group: of the clauses that are the same as this one; -1, if no step takes away such a one. (Literals that are none are in no clause that is there, so they need no care.)
func (b *book) group(c api.Clause) int {
	b.set = append(b.set[:0], c...)
	slices.Sort(b.set)
	b.text = appendLiterals(b.text[:0], slices.Compact(b.set))
	if g, found := b.groups[string(b.text)]; found {
		return g
	}
	return -1
}

// keep: the clause is there from now on.
func (b *book) keep(c api.Clause) {
	if len(b.groups) > 0 {
		if g := b.group(c); g >= 0 {
			b.there[g] = append(b.there[g], len(b.all))
		}
	}
	b.all = append(b.all, c)
	b.until = append(b.until, never)
	b.clauses++
	b.lits += len(c)
}

// add: the clause of a step that adds.
func (b *book) add(c api.Clause) api.Errno {
	switch {
	case !literals(c, b.vars):
		return api.ErrLit
	case len(c) > api.MaxClause:
		return api.ErrClause
	case b.clauses >= api.MaxClauses || len(c) > api.MaxLits-b.lits:
		return api.ErrClauses
	}
	b.keep(c)
	return api.OK
}

// drop: the clause of a step that takes away. Of several that are there the last one goes.
func (b *book) drop(c api.Clause) api.Errno {
	g := b.group(c)
	last := len(b.there[g]) - 1
	if last < 0 {
		return api.ErrGone
	}
	place := b.there[g][last]
	b.there[g] = b.there[g][:last]
	length := len(b.all[place])
	if length == api.MaxClause {
		b.bare = append(b.bare, b.drops)
	}
	b.until[place] = b.drops
	b.drops++
	b.clauses--
	b.lits -= length
	return api.OK
}

// ended: the plan, once it is known where the proof ends.
func (b *book) ended(end int, fault api.Errno) plan {
	b.end, b.fault = end, fault
	return b.plan
}
