package lang

import (
	"iter"

	"cadence/api"
)

// formDecls: is each declaration of the form that Parse gives it?
func formDecls(list []api.Decl) bool {
	for _, d := range list {
		if d.Kind < api.DPublic || d.Kind > api.DOut || !isName(d.Name) || !formSize(d) {
			return false
		}
	}
	return true
}

// formSize: are a declaration's size and words?
func formSize(d api.Decl) bool {
	if d.Kind == api.DConst {
		return d.Size > 0 && len(d.Values) > 0
	}
	return d.Size >= 0 && len(d.Values) == 0
}

// formBody: is each statement, with all that stands in it?
func formBody(body []api.Stmt) bool {
	for s := range all(body, blocks) {
		if s.Kind < api.SSet || s.Kind > api.SRelease || !formStmt(s, stmtFields[s.Kind]) {
			return false
		}
	}
	return true
}

// formStmt: has a statement what its kind has, and nothing else? Its blocks' statements are looked at on their own.
func formStmt(s *api.Stmt, has fields) bool {
	return formName(s.Name, has.name) && formPart(s.At, has.at) && formPart(s.E, has.e) &&
		(has.bounds || s.Lo == 0 && s.Hi == 0) &&
		(has.then || len(s.Then) == 0) && (has.otherwise || len(s.Else) == 0)
}

// formName: a name, where there is one.
func formName(name string, has bool) bool {
	if has {
		return isName(name)
	}
	return name == ""
}

// formPart: an expression, where there is one.
func formPart(e api.Expr, has bool) bool {
	if has {
		return formExpr(e)
	}
	return e.Kind == 0 && e.Num == 0 && e.Name == "" && len(e.Kids) == 0
}

// formExpr: is an expression, with all that stands in it?
func formExpr(e api.Expr) bool {
	for x := range all([]api.Expr{e}, parts) {
		if x.Kind < api.ENum || x.Kind > api.ELast || len(x.Kids) != shapes[x.Kind].parts ||
			!formName(x.Name, x.Kind == api.EName || x.Kind == api.ELoad) ||
			x.Kind != api.ENum && x.Num != 0 {
			return false
		}
	}
	return true
}

// all: each thing of a list, and of the lists that are within it. What is left to go through lies in a list, not in calls within one another: a tree may be far deeper than a program is.
func all[T any](list []T, within func(left [][]T, x *T) [][]T) iter.Seq[*T] {
	return func(yield func(*T) bool) {
		left := [][]T{list}
		for len(left) > 0 {
			list := left[len(left)-1]
			left = left[:len(left)-1]
			for i := range list {
				if !yield(&list[i]) {
					return
				}
				left = within(left, &list[i])
			}
		}
	}
}

// blocks lays the blocks of a statement to what is left.
func blocks(left [][]api.Stmt, s *api.Stmt) [][]api.Stmt { return append(left, s.Then, s.Else) }

// parts lays the parts of an expression to what is left.
func parts(left [][]api.Expr, e *api.Expr) [][]api.Expr { return append(left, e.Kids) }
