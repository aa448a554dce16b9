package dpll

import (
	"iter"

	"cadence/api"
	"cadence/prop"
)

// decision is a variable that was decided. It is open while it is false; once it is turned it is true, and stays on the stack for what stands above it.
type decision struct {
	variable int
	open     bool
}

// search is a search through the assignments of a formula's variables. Each decision of the stack, open or turned, is a level of the engine.
type search struct {
	engine *prop.Engine
	choice choice
	stack  []decision
	budget int64
	diary  *diary // nil, if no proof is wanted

	open    places    // those whose variables have no value, and some others that have got one since
	settled [][]int32 // by levels: the places that are not open, since their variables got a value there

	kind      int
	decisions int64
	conflicts int64
}

// newSearch: of a formula that may be, so that the engine takes all of it.
func newSearch(f api.Formula, c choice, budget int64) *search {
	engine, _ := prop.New(f.Vars)
	for _, clause := range f.Clauses {
		engine.Add(clause...)
	}
	return &search{
		engine:  engine,
		choice:  c,
		budget:  budget,
		open:    allPlaces(f.Vars),
		settled: make([][]int32, 1),
	}
}

// models: hands out the models in the order in which they are found. What the search came to when the last was taken, or none was left, is its kind.
func (s *search) models() iter.Seq[[]int8] {
	return func(yield func([]int8) bool) {
	trying:
		for {
			if !s.engine.Propagate() {
				s.count()
			} else if v := s.next(); v == 0 {
				s.kind = api.Sat
				if !yield(s.model()) {
					break trying
				}
			} else if s.budget >= 0 && s.decisions >= s.budget {
				s.kind = api.Spent
				break trying
			} else {
				s.decide(v)
				continue trying
			}
			if !s.turn() {
				s.kind = api.Unsat
				break trying
			}
		}
	}
}

// next: the variable that the choice names first of those without a value; 0, if there is none.
func (s *search) next() int {
	for {
		place := s.open.least()
		if place < 0 {
			return 0
		}
		v := s.choice(place)
		level := s.engine.LevelOf(v)
		if level < 0 {
			return v
		}
		s.open.remove(place)
		s.settled[level] = append(s.settled[level], int32(place))
	}
}

// decide: the variable is false, and open.
func (s *search) decide(v int) {
	s.decisions++
	if s.diary != nil {
		s.diary.decision(v)
	}
	s.push(decision{variable: v, open: true}, -v)
}

// turn: the last open decision is true from now on; false, if none is open.
func (s *search) turn() bool {
	for i := len(s.stack) - 1; i >= 0; i-- {
		if d := s.stack[i]; d.open {
			s.back(i)
			s.push(decision{variable: d.variable}, d.variable)
			return true
		}
	}
	return false
}

// push: a decision, whose literal is true, is a new level.
func (s *search) push(d decision, l int) {
	s.engine.Decide(l)
	s.stack = append(s.stack, d)
	if len(s.settled) <= len(s.stack) {
		s.settled = append(s.settled, nil)
	}
}

// back: only so many decisions stay; what has lost its value is open again.
func (s *search) back(level int) {
	s.engine.Back(level)
	for i := level + 1; i <= len(s.stack); i++ {
		for _, place := range s.settled[i] {
			s.open.put(int(place))
		}
		s.settled[i] = s.settled[i][:0]
	}
	s.stack = s.stack[:level]
}

// count: a conflict.
func (s *search) count() {
	s.conflicts++
	if s.diary != nil {
		s.diary.conflict()
	}
}

// model: the values of all variables, as a new list.
func (s *search) model() []int8 {
	m := make([]int8, s.engine.Vars())
	for i := range m {
		m[i] = int8(s.engine.Value(i + 1))
	}
	return m
}

// told: what the search came to, without model and proof.
func (s *search) told() api.Search {
	return api.Search{Kind: s.kind, Decisions: s.decisions, Conflicts: s.conflicts}
}
