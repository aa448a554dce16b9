package known

import (
	"cadence/api"
	"cadence/term"
)

// areTruths: are all of these terms?
func areTruths(s *term.Store, terms []int) bool {
	for _, t := range terms {
		if n, _ := s.Node(t); n.W != 0 {
			return false
		}
	}
	return true
}

// learner takes conditions as true.
type learner struct {
	store     *term.Store
	knowledge *knowledge
	changes   int         // how often a fact has become another
	begun     map[int]int // of each OpAnd that was taken: 1 more than the changes up to then
}

// takeAll takes conditions one behind the other; false, if a variable is left without a word. What is still to be taken is a list, since terms may be deeper than calls can be nested.
func (l *learner) takeAll(conds []int) bool {
	l.begun = map[int]int{}
	for _, c := range conds {
		path := []int{c}
		for len(path) > 0 {
			t := path[len(path)-1]
			path = path[:len(path)-1]
			n, _ := l.store.Node(t)
			if n.Op != api.OpAnd {
				if !l.take(n) {
					return false
				}
			} else if l.begin(t) {
				path = append(path, n.B, n.A)
			}
		}
	}
	return true
}

// begin: is there anything to learn of an OpAnd? Not if nothing has changed since it was begun the last time: it would tell the same again, and where each of many has the one below it twice, there would be no end.
func (l *learner) begin(t int) bool {
	if l.begun[t] == l.changes+1 {
		return false
	}
	l.begun[t] = l.changes + 1
	return true
}

// take: a condition that is no OpAnd.
func (l *learner) take(n api.Node) bool {
	holds := n.Op != api.OpNot
	if !holds {
		n, _ = l.store.Node(n.A)
	}
	switch n.Op {
	case api.OpVar:
		return l.isWord(n, truthWord(holds))
	case api.OpEq, api.OpUlt, api.OpUle:
		return l.takeCompare(n, holds)
	}
	return true
}

func truthWord(is bool) uint64 {
	if is {
		return 1
	}
	return 0
}

// takeCompare: a compare, or that it does not hold; it tells something, if it is of a variable and a constant.
func (l *learner) takeCompare(n api.Node, holds bool) bool {
	x, _ := l.store.Node(n.A)
	k, _ := l.store.Node(n.B)
	isFirst := x.Op == api.OpVar
	if !isFirst {
		x, k = k, x
	}
	if x.Op != api.OpVar || k.Op != api.OpConst {
		return true
	}
	isStrict := (n.Op == api.OpUlt) == holds
	switch {
	case n.Op == api.OpEq && holds:
		return l.isWord(x, k.Num)
	case n.Op == api.OpEq:
		return l.isNot(x, k.Num)
	case isFirst == holds:
		return l.isAtMost(x, k.Num, isStrict)
	}
	return l.isAtLeast(x, k.Num, isStrict)
}

func (l *learner) isWord(v api.Node, x uint64) bool { return l.narrow(v, alone(v.W, x)) }

// isNot: tells something where x is at an end of what is known.
func (l *learner) isNot(v api.Node, x uint64) bool {
	f := l.knowledge.facts[l.knowledge.placeOf(v)]
	switch {
	case f.Least == x:
		return l.isAtLeast(v, x, true)
	case f.Top == x:
		return l.isAtMost(v, x, true)
	}
	return true
}

// isAtMost: x, or, if it is strict, one less; false of less than nothing.
func (l *learner) isAtMost(v api.Node, x uint64, isStrict bool) bool {
	if isStrict && x == 0 {
		return false
	}
	f := nothing(v.W)
	f.Top = x - truthWord(isStrict)
	return l.narrow(v, f)
}

// isAtLeast: x, or, if it is strict, one more; false of more than the width holds.
func (l *learner) isAtLeast(v api.Node, x uint64, isStrict bool) bool {
	f := nothing(v.W)
	if isStrict && x == f.Top {
		return false
	}
	f.Least = x + truthWord(isStrict)
	return l.narrow(v, f)
}

// narrow: of a variable's words those of f are left; false, if there is none.
func (l *learner) narrow(v api.Node, f api.Fact) bool {
	place := l.knowledge.placeOf(v)
	left, has := settle(overlap(l.knowledge.facts[place], f))
	if !has {
		return false
	}
	if left != l.knowledge.facts[place] {
		l.knowledge.facts[place] = left
		l.changes++
	}
	return true
}
