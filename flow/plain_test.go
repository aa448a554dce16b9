package flow

import (
	"fmt"
	"maps"
	"slices"

	"cadence/api"
)

// What stands here is a plain reading of the chapter: sets are maps, what stands in a program is told by where it stands in the tree, and a loop is gone through as often as it is done, whether something new comes or not.

// plainSet: declarations, by their names.
type plainSet map[string]bool

func joined(sets ...plainSet) plainSet {
	out := plainSet{}
	for _, s := range sets {
		maps.Copy(out, s)
	}
	return out
}

// plainHangs: what each declaration hangs on.
type plainHangs map[string]plainSet

func either(a, b plainHangs) plainHangs {
	out := plainHangs{}
	for name := range a {
		out[name] = joined(a[name], b[name])
	}
	return out
}

// plainFlow: of each expression, by its path, what it hangs on in all, and whether it is seen; the paths in the order of places.
type plainFlow struct {
	p     api.Program
	paths []string
	exprs map[string]plainSet
	seen  map[string]bool
	end   plainHangs
}

func plainly(p api.Program) *plainFlow {
	f := &plainFlow{p: p, exprs: map[string]plainSet{}, seen: map[string]bool{}}
	begin := plainHangs{}
	for _, d := range p.Decls {
		f.paths = append(f.paths, d.Name)
		begin[d.Name] = plainSet{}
		if d.Kind == api.DSecret {
			begin[d.Name][d.Name] = true
		}
	}
	f.listStmts(p.Body, "/")
	f.end = f.stmts(p.Body, "/", begin)
	return f
}

// listStmts: the places of statements and what stands in them.
func (f *plainFlow) listStmts(list []api.Stmt, path string) {
	for i, s := range list {
		at := fmt.Sprint(path, i, "/")
		f.paths = append(f.paths, at)
		switch s.Kind {
		case api.SSet:
			f.listExpr(s.E, at+"e")
		case api.SStore:
			f.listExpr(s.At, at+"at")
			f.listExpr(s.E, at+"e")
		case api.SIf:
			f.listExpr(s.E, at+"e")
			f.listStmts(s.Then, at+"then/")
			f.listStmts(s.Else, at+"else/")
		case api.SFor:
			f.listStmts(s.Then, at+"then/")
		}
	}
}

func (f *plainFlow) listExpr(e api.Expr, path string) {
	f.paths = append(f.paths, path)
	f.exprs[path] = plainSet{}
	for i, kid := range e.Kids {
		f.listExpr(kid, fmt.Sprint(path, ".", i))
	}
}

// greater: is an array's Size above Line?
func (f *plainFlow) greater(name string) bool {
	for _, d := range f.p.Decls {
		if d.Name == name {
			return d.Size > f.p.Line
		}
	}
	panic("no declaration " + name)
}

func (f *plainFlow) stmts(list []api.Stmt, path string, now plainHangs) plainHangs {
	for i, s := range list {
		now = f.stmt(s, fmt.Sprint(path, i, "/"), now)
	}
	return now
}

// stmt: what is behind a statement, by what is ahead of it, which stays as it is.
func (f *plainFlow) stmt(s api.Stmt, path string, ahead plainHangs) plainHangs {
	now := maps.Clone(ahead)
	switch s.Kind {
	case api.SSet:
		now[s.Name] = f.expr(s.E, path+"e", ahead)
	case api.SStore:
		now[s.Name] = joined(ahead[s.Name], f.expr(s.At, path+"at", ahead), f.expr(s.E, path+"e", ahead))
		if f.greater(s.Name) {
			f.seen[path+"at"] = true
		}
	case api.SRelease:
		now[s.Name] = plainSet{}
	case api.SIf:
		f.expr(s.E, path+"e", ahead)
		f.seen[path+"e"] = true
		return either(f.stmts(s.Then, path+"then/", ahead), f.stmts(s.Else, path+"else/", ahead))
	case api.SFor:
		for i := s.Lo; i < s.Hi; i++ {
			now = f.stmts(s.Then, path+"then/", ahead)
			ahead = either(ahead, now)
		}
	}
	return now
}

func (f *plainFlow) expr(e api.Expr, path string, now plainHangs) plainSet {
	on := plainSet{}
	if e.Kind == api.EName || e.Kind == api.ELoad {
		on = joined(now[e.Name]) // of a loop there is nothing
	}
	for i, kid := range e.Kids {
		at := fmt.Sprint(path, ".", i)
		on = joined(on, f.expr(kid, at, now))
		if e.Kind == api.EDiv || e.Kind == api.ERem || e.Kind == api.ELoad && f.greater(e.Name) {
			f.seen[at] = true
		}
	}
	f.exprs[path] = joined(f.exprs[path], on)
	return on
}

// numbers: of the declarations of a set, rising.
func (f *plainFlow) numbers(s plainSet) []int {
	list := []int{}
	for i, d := range f.p.Decls {
		if s[d.Name] {
			list = append(list, i)
		}
	}
	return list
}

// high: what High should answer.
func (f *plainFlow) high() []int {
	list := []int{}
	for place, path := range f.paths {
		if f.seen[path] && len(f.exprs[path]) > 0 {
			list = append(list, place)
		}
	}
	return list
}

// sources: what Sources should answer at a place; false, if no expression stands there.
func (f *plainFlow) sources(place int) ([]int, bool) {
	if place < 0 || place >= len(f.paths) {
		return nil, false
	}
	s, is := f.exprs[f.paths[place]]
	return f.numbers(s), is
}

// ends: what Ends should answer.
func (f *plainFlow) ends() [][]int {
	list := [][]int{}
	for _, d := range f.p.Decls {
		list = append(list, f.numbers(f.end[d.Name]))
	}
	return list
}

// secretsOf: the numbers of the declarations that are secret.
func secretsOf(p api.Program) []int {
	var list []int
	for i, d := range p.Decls {
		if d.Kind == api.DSecret {
			list = append(list, i)
		}
	}
	return list
}

// without: a list less one number.
func without(list []int, number int) []int {
	return slices.DeleteFunc(slices.Clone(list), func(n int) bool { return n == number })
}
