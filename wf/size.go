package wf

import "cadence/api"

// tooMany stands for every size that is above what a program may have: so no sum and no product leaves a number's range, however great the size is.
const tooMany = api.MaxSteps + 1

// stmtsSize: the size of statements that stand one behind the other, as far as clauses 1 to 15 hold: no loop's Lo is above its Hi, and nothing is too deep for calls within one another.
func stmtsSize(list []api.Stmt) uint64 {
	size := uint64(0)
	for i := range list {
		size = min(size+stmtSize(&list[i]), tooMany)
	}
	return size
}

func stmtSize(s *api.Stmt) uint64 {
	if s.Kind == api.SFor {
		return 1 + min(s.Hi-s.Lo, tooMany)*(1+stmtsSize(s.Then))
	}
	return 1 + exprSize(&s.At) + exprSize(&s.E) + stmtsSize(s.Then) + stmtsSize(s.Else)
}

// exprSize: 0, if there is no expression.
func exprSize(e *api.Expr) uint64 {
	if e.Kind == 0 {
		return 0
	}
	size := uint64(1)
	for i := range e.Kids {
		size += exprSize(&e.Kids[i])
	}
	return size
}
