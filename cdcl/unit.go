package cdcl

import "container/heap"

// variable is what a solver knows of a variable.
type variable struct {
	number int32
	level  int32   // at which it got its value
	reason *clause // by which it got it; nil of what was assumed or chosen; without a level: see settle
	mark   mark

	positive bool   // how it is chosen next
	steady   bool   // it is always chosen so
	turn     int    // among those of one score the least is chosen first
	score    uint64 // the more, the more it was used of late
	place    int    // in the order; -1, if it is not there
}

// watcher is a clause that watches a literal, with another literal of it: where that one is true the clause need not be looked at.
type watcher struct {
	clause *clause
	other  code
}

func (s *Solver) of(l code) *variable { return &s.variables[l>>1] }

// level: how many levels stand. The first is of assumptions, each further one of a choice.
func (s *Solver) level() int { return len(s.marks) }

// open: a new level begins.
func (s *Solver) open() { s.marks = append(s.marks, len(s.trail)) }

// set: an open literal is true from now on.
func (s *Solver) set(l code, reason *clause) {
	s.values[l], s.values[l^1] = 1, -1
	v := s.of(l)
	v.level, v.reason = int32(s.level()), reason
	s.trail = append(s.trail, l)
}

// back: only so many levels stand.
func (s *Solver) back(level int) {
	if level >= s.level() {
		return
	}
	left := s.marks[level]
	for _, l := range s.trail[left:] {
		s.values[l], s.values[l^1] = 0, 0
		v := s.of(l)
		v.reason = nil
		if !v.steady {
			v.positive = l&1 == 0
		}
		if v.place < 0 {
			heap.Push(&s.order, v)
		}
	}
	s.trail = s.trail[:left]
	s.head = min(s.head, left)
	s.marks = s.marks[:level]
}

// watchBy: the first two literals of a clause watch it.
func (s *Solver) watchBy(c *clause) {
	a, b := c.lits[0], c.lits[1]
	s.watch[a] = append(s.watch[a], watcher{clause: c, other: b})
	s.watch[b] = append(s.watch[b], watcher{clause: c, other: a})
}

// propagate: all that follows by units; or a clause that is false.
func (s *Solver) propagate() *clause {
	for s.head < len(s.trail) {
		l := s.trail[s.head] ^ 1
		s.head++
		if c := s.tell(l); c != nil {
			return c
		}
	}
	return nil
}

// tell: each clause that watches a literal which has become false watches another one instead, or has one that is true, or gives its other one a value; or it is false, and the answer.
func (s *Solver) tell(l code) *clause {
	list := s.watch[l]
	left := 0
	for i, w := range list {
		if s.values[w.other] <= 0 {
			if s.move(w.clause, l) {
				continue
			}
			w.other = w.clause.lits[0]
		}
		list[left] = w
		left++
		switch s.values[w.other] {
		case 0:
			s.set(w.other, w.clause)
		case -1:
			left += copy(list[left:], list[i+1:])
			s.watch[l] = list[:left]
			return w.clause
		}
	}
	s.watch[l] = list[:left]
	return nil
}

// move: another literal that is not false watches the clause instead of this one; false, if there is none, or the first one is true. The one that watches on stands first then.
func (s *Solver) move(c *clause, l code) bool {
	all := c.lits
	if all[0] == l {
		all[0], all[1] = all[1], l
	}
	if s.values[all[0]] > 0 {
		return false
	}
	rest := all[2:]
	at := int(c.from)
	for range rest {
		if at >= len(rest) {
			at = 0
		}
		if next := rest[at]; s.values[next] >= 0 {
			c.from = int32(at)
			all[1], rest[at] = next, l
			s.watch[next] = append(s.watch[next], watcher{clause: c, other: all[0]})
			return true
		}
		at++
	}
	return false
}
