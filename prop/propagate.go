package prop

import "math"

// never: beyond all levels.
const never = math.MaxInt32

// Propagate: all that follows; false: a conflict. What must be done again comes first, so that a new task stands behind all that are done.
func (e *Engine) Propagate() bool {
	for e.clash == noClause {
		switch {
		case e.done < len(e.tasks):
			e.again()
		case e.met < len(e.clauses):
			e.meet(int32(e.met))
			e.met++
		case e.head < len(e.trail):
			e.tell(e.trail[e.head] ^ 1)
			e.head++
		default:
			return true
		}
	}
	return false
}

// again: does the first task that must be done again.
func (e *Engine) again() {
	t := &e.tasks[e.done]
	t.at = int32(e.Level())
	e.done++
	if t.clause == noClause {
		e.visit(t.lit)
	} else {
		e.settle(t.clause, t.lit)
	}
}

// meet: looks at a clause for the first time. It may come with literals that are false: then it watches the two that a way back opens first, since no other literal of it would tell when it becomes a unit again.
func (e *Engine) meet(k int32) {
	first, second := e.lastTwo(k)
	if second != none {
		e.clauses[k].watched = [2]code{first, second}
		e.watch[first] = append(e.watch[first], watcher{clause: k, other: second})
		e.watch[second] = append(e.watch[second], watcher{clause: k, other: first})
	}
	since := e.falseSince(second)
	if since == never {
		return
	}
	e.settle(k, first)
	e.remember(k, first, since)
}

// lastTwo: two unlike literals of a clause that are not false, or became so last of all; none, where there are no more. (Those that are false since level 0 count as none: they stay so.)
func (e *Engine) lastTwo(k int32) (code, code) {
	first, second := none, none
search:
	for _, l := range e.inside(k) {
		since := e.falseSince(l)
		switch {
		case l == first:
		case since > e.falseSince(first):
			first, second = l, first
		case since > e.falseSince(second):
			second = l
		case e.falseSince(second) == never:
			break search
		}
	}
	return first, second
}

// falseSince: the level since which a literal is false; never, if it is not.
func (e *Engine) falseSince(l code) int32 {
	if e.values[l] >= 0 {
		return never
	}
	return e.given[l>>1].level
}

// tell: the watchers of a literal that has become false look at it.
func (e *Engine) tell(l code) {
	e.visit(l)
	if len(e.watch[l]) > 0 {
		e.remember(noClause, l, e.given[l>>1].level)
	}
}

// remember: what was just done hangs on a level; above that it is a task.
func (e *Engine) remember(k int32, l code, since int32) {
	level := int32(e.Level())
	if since < level {
		e.tasks = append(e.tasks, task{clause: k, lit: l, since: since, at: level})
		e.done++
	}
}

// settle: all literals of a clause but this one are false: it is true from now on, or the clause is false.
func (e *Engine) settle(k int32, l code) {
	switch e.values[l] {
	case 0:
		e.set(l, k)
	case -1:
		e.clash = k
	}
}

// watchers: the clauses that watch a literal, cut so that nothing can be put behind them.
func (e *Engine) watchers(l code) []watcher {
	list := e.watch[l]
	return list[:len(list):len(list)]
}

// visit: each clause that watches a literal which is false watches another one instead, or has one that is true, or is settled.
func (e *Engine) visit(l code) {
	left := e.sift(l, e.watchers(l))
	e.watch[l] = e.watch[l][:left]
}

// sift: lays those watchers of a false literal that stay to the front, and tells how many. A conflict ends it.
func (e *Engine) sift(l code, list []watcher) int {
	left := 0
each:
	for i, w := range list {
		if e.values[w.other] > 0 {
			list[left] = w
			left++
			continue
		}
		c := &e.clauses[w.clause]
		if c.watched[0] == l {
			c.watched[0], c.watched[1] = c.watched[1], l
		}
		other := c.watched[0]
		all := e.inside(w.clause)
		at := int(c.from)
		for range all {
			if at >= len(all) {
				at = 0
			}
			if next := all[at]; next != other && e.values[next] >= 0 {
				c.from, c.watched[1] = int32(at), next
				e.watch[next] = append(e.watch[next], watcher{clause: w.clause, other: other})
				continue each
			}
			at++
		}
		list[left] = watcher{clause: w.clause, other: other}
		left++
		e.settle(w.clause, other)
		if e.clash != noClause {
			return left + copy(list[left:], list[i+1:])
		}
	}
	return left
}
