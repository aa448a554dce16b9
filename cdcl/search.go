package cdcl

import (
	"slices"

	"cadence/api"
)

// quest is one search, and what it comes to.
type quest struct {
	*Solver
	assume []int
	budget int64
	pause  func() int64 // how many conflicts come till the next restart
	left   int64        // and how many of them are left

	kind      int
	model     []int8
	core      []int
	empty     *lemma // of Unsat: the empty clause, which follows with the core
	decisions int64
	conflicts int64
}

// ask: a search under assumptions that are literals of the solver.
func (s *Solver) ask(assume []int, budget int64) *quest {
	q := &quest{Solver: s, assume: assume, budget: budget, pause: pauses()}
	if s.end != nil {
		q.kind, q.empty = api.Unsat, s.end
	}
	for q.kind == 0 {
		q.advance()
	}
	s.back(0)
	return q
}

// advance: takes one step of the search. A conflict counts if something is learnt from it, so one more than the budget is left alone.
func (q *quest) advance() {
	conflict := q.propagate()
	switch {
	case conflict != nil && q.level() <= 1:
		q.refute(conflict)
	case conflict != nil && q.conflicts == q.budget:
		q.kind = api.Spent
	case conflict != nil:
		q.conflicts++
		q.left--
		q.learn(conflict)
	case q.level() == 0:
		q.suppose()
	case q.left <= 0:
		q.restart()
	default:
		q.choose()
	}
}

// suppose: opens the level of the assumptions.
func (q *quest) suppose() {
	q.settle()
	q.open()
	for _, l := range q.assume {
		switch c := codeOf(l); q.values[c] {
		case 0:
			q.set(c, nil)
		case -1:
			q.refute(&clause{lits: []code{c}})
			q.core = append(q.core, l)
			return
		}
	}
}

// restart: all choices are taken back.
func (q *quest) restart() {
	q.left = q.pause()
	q.back(1)
	q.forget()
}

// choose: the next variable gets a value; if there is none, all values are a model.
func (q *quest) choose() {
	v := q.next()
	if v == nil {
		q.kind, q.model = api.Sat, q.valuesNow()
		return
	}
	q.decisions++
	q.open()
	if v.positive {
		q.set(2*code(v.number), nil)
	} else {
		q.set(2*code(v.number)+1, nil)
	}
}

// valuesNow: of all variables, as a new list.
func (s *Solver) valuesNow() []int8 {
	m := make([]int8, s.formula.Vars)
	for i := range m {
		m[i] = s.values[codeOf(i+1)]
	}
	return m
}

// refute: a clause is false under no more than the assumptions: those on which that hangs are the core.
func (q *quest) refute(c *clause) {
	q.kind = api.Unsat
	q.empty = q.newLemma(nil, q.because(c))
	if q.level() == 0 {
		q.end = q.empty
	}
	for _, l := range q.assume {
		if v := q.of(codeOf(l)); v.mark == traced && v.level == 1 && v.reason == nil {
			q.core = append(q.core, l)
			v.mark = kept
		}
	}
	q.unmark()
}

// told: what the search came to, without its evidence.
func (q *quest) told() api.Search {
	return api.Search{Kind: q.kind, Decisions: q.decisions, Conflicts: q.conflicts}
}

const (
	firstPause = 64   // conflicts till the first restart
	firstRoom  = 2000 // lemmas that may be watched at first
	moreRoom   = 300  // and so many more each time that some are forgotten
	bestGlue   = 2    // lemmas of no more levels stay
)

// pauses: a function that tells the pauses till the next restarts: the first one times 1, 1, 2, 1, 1, 2, 4, 1, 1, 2, 1, 1, 2, 4, 8 and so on.
func pauses() func() int64 {
	turn, length := int64(1), int64(1)
	return func() int64 {
		now := length
		if turn&-turn == length {
			turn, length = turn+1, 1
		} else {
			length *= 2
		}
		return now * firstPause
	}
}

// forget: where there are too many lemmas, half of those that seem of least use are watched no more. Since there is room for more each time, nothing is learnt and forgotten for ever.
func (s *Solver) forget() {
	if len(s.lemmas) <= s.room {
		return
	}
	s.room += moreRoom
	var worst []*lemma
	for _, m := range s.lemmas {
		if m.glue > bestGlue && s.of(m.lits[0]).reason != &m.clause {
			worst = append(worst, m)
		}
	}
	slices.SortFunc(worst, worse)
	for _, m := range worst[:len(worst)/2] {
		m.gone = true
	}
	s.sweep()
}

// worse: of more levels, or used less of late.
func worse(a, b *lemma) int {
	if a.glue != b.glue {
		return b.glue - a.glue
	}
	if a.used != b.used {
		return a.used - b.used
	}
	return a.number - b.number
}

// sweep: what is gone is watched no more.
func (s *Solver) sweep() {
	s.lemmas = slices.DeleteFunc(s.lemmas, func(m *lemma) bool { return m.gone })
	for l, list := range s.watch {
		s.watch[l] = slices.DeleteFunc(list, func(w watcher) bool { return w.clause.lemma != nil && w.clause.lemma.gone })
	}
}
