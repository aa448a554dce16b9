package prop

// Value: 1, -1, 0.
func (e *Engine) Value(v int) int {
	if v < 1 || v > e.Vars() {
		return 0
	}
	return int(e.values[codeOf(v)])
}

// Level: how many decisions stand.
func (e *Engine) Level() int { return len(e.marks) }

// LevelOf: of a variable's value; -1: none.
func (e *Engine) LevelOf(v int) int {
	if e.Value(v) == 0 {
		return -1
	}
	return int(e.given[v].level)
}

// Trail: the true literals, in order.
func (e *Engine) Trail() []int { return literalsOf(e.trail) }

// Reason: the clause that gave a variable its value.
func (e *Engine) Reason(v int) []int {
	if e.Value(v) == 0 {
		return nil
	}
	return e.tellClause(e.given[v].reason)
}

// Conflict: a clause that is false.
func (e *Engine) Conflict() []int { return e.tellClause(e.clash) }

// Vars: how many variables.
func (e *Engine) Vars() int { return len(e.given) - 1 }

// Clauses: how many clauses.
func (e *Engine) Clauses() int { return len(e.clauses) }

// tellClause: a clause as it was handed in; nil of no clause.
func (e *Engine) tellClause(k int32) []int {
	if k == noClause {
		return nil
	}
	return literalsOf(e.inside(k))
}

// literalsOf: a new list.
func literalsOf(codes []code) []int {
	out := make([]int, len(codes))
	for i, c := range codes {
		out[i] = literalOf(c)
	}
	return out
}
