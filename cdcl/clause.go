package cdcl

import (
	"slices"

	"cadence/api"
	"cadence/cnf"
)

// code is a literal as a number from 2 on: twice its variable, and 1 more, if it is negative. So lists can be asked by literals, and the opposite is the code with its last bit turned.
type code int32

func codeOf(l int) code {
	if l < 0 {
		return code(-2*l + 1)
	}
	return code(2 * l)
}

func literalOf(c code) int {
	if c&1 == 1 {
		return -int(c >> 1)
	}
	return int(c >> 1)
}

// clause is one that takes part in the search. If it is watched, its first two literals are those that watch.
type clause struct {
	lits  []code // none twice, and none with its opposite
	from  int32  // where the next search through them begins
	lemma *lemma // nil, if it is one of the solver's clauses
}

// lemma is a clause that was learnt, and why: with those lemmas and the solver's clauses it follows by units. One that is watched no more lives on just as long as another one has it among its why.
type lemma struct {
	clause
	why    []*lemma // each once
	number int      // in the order in which they were learnt
	glue   int      // of how many levels its literals were
	used   int      // how many lemmas there were when it was used last
	gone   bool     // it is watched no more

	round int // in which it was gathered last
	until int // the last place, among those gathered with it, that hangs on it
}

// newLemma: the next lemma, not watched yet. There may be very many, so its lists have no spare room.
func (s *Solver) newLemma(lits []code, why []*lemma) *lemma {
	s.learnt++
	m := &lemma{clause: clause{lits: slices.Clone(lits)}, why: slices.Clone(why), number: s.learnt, used: s.learnt}
	m.clause.lemma = m
	return m
}

// load: a clause takes part in the search from now on; no level stands. (What is always true, and what comes when the end is known, need not.)
func (s *Solver) load(c api.Clause) {
	set, twofold, _ := cnf.Norm(c)
	if twofold || s.end != nil {
		return
	}
	lits := make([]code, len(set))
	for i, l := range set {
		lits[i] = codeOf(l)
	}
	s.attach(&clause{lits: lits})
}

// attach: two literals that are not false watch the clause; one that is alone follows; without one this is the end.
func (s *Solver) attach(c *clause) {
	n := 0
	for i, l := range c.lits {
		if s.values[l] >= 0 {
			c.lits[n], c.lits[i] = l, c.lits[n]
			n++
		}
		if n == 2 {
			s.watchBy(c)
			return
		}
	}
	switch {
	case n == 0:
		s.end = s.newLemma(nil, s.because(c))
		s.unmark()
	case s.values[c.lits[0]] == 0:
		s.set(c.lits[0], c)
	}
}

// settle: of each value that stands without a level, the reason becomes a lemma that says just that; nil, if it follows by units from the solver's clauses. So whatever hangs on the value hangs on one lemma more, and the clause that gave it may go.
func (s *Solver) settle() {
	for ; s.settled < len(s.trail); s.settled++ {
		l := s.trail[s.settled]
		v := s.of(l)
		v.reason = s.fact(l, v.reason)
	}
}

// fact: the lemma that a literal is true, of the reason for that, whose other literals are false and settled.
func (s *Solver) fact(l code, reason *clause) *clause {
	if len(reason.lits) == 1 && reason.lemma != nil {
		return reason
	}
	var why []*lemma
	if reason.lemma != nil {
		why = append(why, reason.lemma)
	}
	for _, o := range reason.lits {
		if r := s.of(o).reason; o != l && r != nil {
			why = append(why, r.lemma)
		}
	}
	if why == nil {
		return nil
	}
	return &s.newLemma([]code{l}, why).clause
}
