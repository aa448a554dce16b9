package cdcl

// mark is what is known of a variable while a conflict is looked into.
type mark uint8

const (
	fresh  mark = iota
	passed      // of the conflict's level, and one that the conflict hangs on
	kept        // its literal stands in the clause that is learnt
	spare       // it need not stand there: it follows from those that are kept
	needed      // it does not follow from these
	traced      // its reason was looked into
)

// note: a variable has that mark till unmark.
func (s *Solver) note(v *variable, m mark) {
	if v.mark == fresh {
		s.marked = append(s.marked, v)
	}
	v.mark = m
}

func (s *Solver) unmark() {
	for _, v := range s.marked {
		v.mark = fresh
	}
	s.marked = s.marked[:0]
}

// learn: a lemma that the conflict comes from, which gives a literal a value at the level to which it goes back.
func (s *Solver) learn(conflict *clause) {
	lits := s.shorten(s.cut(conflict))
	why := s.because(conflict)
	s.unmark()
	m := s.newLemma(lits, why)
	s.age()
	if len(lits) == 1 {
		s.back(0)
	} else {
		m.glue = s.stampLevels(m.lits)
		last := s.lastLevel(m.lits)
		m.lits[1], m.lits[last] = m.lits[last], m.lits[1]
		s.back(int(s.of(m.lits[1]).level))
		s.watchBy(&m.clause)
		s.lemmas = append(s.lemmas, m)
	}
	s.set(m.lits[0], &m.clause)
}

// cut: literals that are false together just where the conflict is, of which only the first one is of its level: back through the reasons till one value is left on which all of that level hangs.
func (s *Solver) cut(conflict *clause) []code {
	lits := make([]code, 1)
	waiting, at := 0, len(s.trail)
	for c := conflict; ; {
		s.use(c)
		for _, l := range c.lits {
			v := s.of(l)
			switch {
			case v.mark != fresh || v.level == 0:
				continue
			case int(v.level) == s.level():
				s.note(v, passed)
				waiting++
			default:
				s.note(v, kept)
				lits = append(lits, l)
			}
			s.bump(v)
		}
		for at--; s.of(s.trail[at]).mark != passed; at-- {
		}
		v := s.of(s.trail[at])
		waiting--
		if waiting == 0 {
			v.mark = kept
			lits[0] = s.trail[at] ^ 1
			return lits
		}
		c = v.reason
	}
}

// use: a lemma is used just now.
func (s *Solver) use(c *clause) {
	if c.lemma != nil {
		c.lemma.used = s.learnt
	}
}

// shorten: the literals but those that follow from the others.
func (s *Solver) shorten(lits []code) []code {
	s.stampLevels(lits)
	left := 1
	for _, l := range lits[1:] {
		if !s.follows(s.of(l)) {
			lits[left] = l
			left++
		}
	}
	return lits[:left]
}

// visit is a variable whose reason is gone through: where.
type visit struct {
	variable *variable
	at       int
}

// follows: does a value follow from those of the kept variables beside it? Then it is spare. (A level that none of these has can not be reached from them.)
func (s *Solver) follows(v *variable) bool {
	if v.reason == nil {
		return false
	}
	way := []visit{{variable: v}}
	for len(way) > 0 {
		top := &way[len(way)-1]
		if top.at == len(top.variable.reason.lits) {
			s.note(top.variable, spare)
			way = way[:len(way)-1]
			continue
		}
		next := s.of(top.variable.reason.lits[top.at])
		top.at++
		switch {
		case next == top.variable, next.level == 0, next.mark == kept, next.mark == spare:
		case next.mark == needed, next.reason == nil, s.stamps[next.level] != s.round:
			for _, x := range way[1:] {
				s.note(x.variable, needed)
			}
			return false
		default:
			way = append(way, visit{variable: next})
		}
	}
	return true
}

// stampLevels: stamps the levels of literals, and tells how many they are.
func (s *Solver) stampLevels(lits []code) int {
	s.round++
	n := 0
	for len(s.stamps) <= s.level() {
		s.stamps = append(s.stamps, 0)
	}
	for _, l := range lits {
		if at := s.of(l).level; s.stamps[at] != s.round {
			s.stamps[at] = s.round
			n++
		}
	}
	return n
}

// lastLevel: the place of a literal of the highest level but for the first one.
func (s *Solver) lastLevel(lits []code) int {
	last := 1
	for i := 2; i < len(lits); i++ {
		if s.of(lits[i]).level > s.of(lits[last]).level {
			last = i
		}
	}
	return last
}

// because: the lemmas by which a clause is false, given the kept values and those without a reason. All variables that it comes by, but the kept ones, are traced.
func (s *Solver) because(c *clause) []*lemma {
	var why []*lemma
	waiting := []*clause{c}
	for len(waiting) > 0 {
		c := waiting[len(waiting)-1]
		waiting = waiting[:len(waiting)-1]
		if c.lemma != nil {
			why = append(why, c.lemma)
		}
		for _, l := range c.lits {
			v := s.of(l)
			if v.mark == kept || v.mark == traced {
				continue
			}
			s.note(v, traced)
			if v.reason != nil {
				waiting = append(waiting, v.reason)
			}
		}
	}
	return why
}
