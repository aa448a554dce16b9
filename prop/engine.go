// Package prop is layer 3: what follows by unit clauses. See shared/doc/03-prop.md.
package prop

import "cadence/api"

// code is a literal as a number from 2 on: twice its variable, and 1 more, if it is negative. So lists can be asked by literals, and the opposite is the code with its last bit turned.
type code int32

const (
	none     code  = 0  // no literal; it counts as one that is false since level 0
	noClause int32 = -1 // no clause: the reason of decisions
)

// clause is a kept clause: its place among the literals of all clauses.
type clause struct {
	start, end int32
	from       int32   // where the next search through it begins, counted from start
	watched    [2]code // none, if it needs no watch
}

// watcher is a clause that watches a literal, with another literal of it: where that one is true the clause need not be looked at.
type watcher struct {
	clause int32
	other  code
}

// given is when and why a variable got its value.
type given struct {
	level  int32
	reason int32
}

// task is what was done at a level above the one that it hangs on, so that it must be done again when the engine goes back between the two: with a clause, the literal must be true, since the others are false from the level since on; without one, the watchers of the literal, which is false since then, must be looked at.
type task struct {
	clause int32
	lit    code
	since  int32
	at     int32
}

// Engine: clauses, and values by levels.
type Engine struct {
	literals []code // of all clauses, one behind the other, as they were handed in
	clauses  []clause
	met      int // how many clauses Propagate has looked at

	values []int8      // by codes: 1 true, -1 false, 0 open
	given  []given     // by variables
	watch  [][]watcher // by codes

	trail []code
	head  int   // how many literals of the trail have told their watchers
	marks []int // how long the trail was when each level began

	tasks []task // in the order of the levels at which they were done
	done  int    // the tasks behind these must be done again

	clash int32 // a clause that is false, if the engine is in a conflict
}

// New: an engine of so many variables.
func New(vars int) (*Engine, api.Errno) {
	if vars < 0 || vars > api.MaxVars {
		return nil, api.ErrVars
	}
	e := &Engine{
		values: make([]int8, 2*vars+2),
		given:  make([]given, vars+1),
		watch:  make([][]watcher, 2*vars+2),
		clash:  noClause,
	}
	e.values[none] = -1
	return e, api.OK
}

// Add: a clause is kept.
func (e *Engine) Add(c ...int) api.Errno {
	for _, l := range c {
		if !e.has(l) {
			return api.ErrLit
		}
	}
	if len(c) > api.MaxClause {
		return api.ErrClause
	}
	if len(e.clauses) >= api.MaxClauses || len(e.literals)+len(c) > api.MaxLits {
		return api.ErrClauses
	}
	start := len(e.literals)
	for _, l := range c {
		e.literals = append(e.literals, codeOf(l))
	}
	e.clauses = append(e.clauses, clause{start: int32(start), end: int32(len(e.literals))})
	return api.OK
}

// Decide: a literal is true, at a new level.
func (e *Engine) Decide(l int) api.Errno {
	if !e.has(l) {
		return api.ErrLit
	}
	if e.clash != noClause {
		return api.ErrConflict
	}
	if e.values[codeOf(l)] != 0 {
		return api.ErrSet
	}
	e.marks = append(e.marks, len(e.trail))
	e.set(codeOf(l), noClause)
	return api.OK
}

// Back: to a lower level.
func (e *Engine) Back(level int) api.Errno {
	if level < 0 || level > e.Level() {
		return api.ErrLevel
	}
	if level == e.Level() {
		return api.OK
	}
	left := e.marks[level]
	for _, l := range e.trail[left:] {
		e.values[l], e.values[l^1] = 0, 0
	}
	e.trail = e.trail[:left]
	e.head = min(e.head, left)
	e.marks = e.marks[:level]
	e.clash = noClause
	e.undo(int32(level))
	return api.OK
}

// undo: the tasks that were done above a level must be done again, but those that hang on values which are gone.
func (e *Engine) undo(level int32) {
	for e.done > 0 && e.tasks[e.done-1].at > level {
		e.done--
	}
	kept := e.tasks[:e.done]
	for _, t := range e.tasks[e.done:] {
		if t.since <= level {
			kept = append(kept, t)
		}
	}
	e.tasks = kept
}

// set: an open literal is true from now on, at the level as it stands.
func (e *Engine) set(l code, reason int32) {
	e.values[l], e.values[l^1] = 1, -1
	e.given[l>>1] = given{level: int32(len(e.marks)), reason: reason}
	e.trail = append(e.trail, l)
}

// has: is it a literal of the engine's variables?
func (e *Engine) has(l int) bool { return l != 0 && l >= -e.Vars() && l <= e.Vars() }

// inside: the literals of a clause.
func (e *Engine) inside(k int32) []code {
	c := e.clauses[k]
	return e.literals[c.start:c.end]
}

func codeOf(l int) code {
	if l < 0 {
		return code(-2*l + 1)
	}
	return code(2 * l)
}

func literalOf(c code) int {
	if c&1 == 1 {
		return -int(c >> 1)
	}
	return int(c >> 1)
}
