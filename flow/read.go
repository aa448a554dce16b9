package flow

import (
	"slices"

	"cadence/api"
)

// code: a right program as it is gone through, its names and places looked up once, however often that is.
type code struct {
	secrets []int // the numbers of the declarations that are
	body    []stmt
	exprs   []int // the places of all expressions, rising
}

// stmt: a statement, with as much of this as its kind has.
type stmt struct {
	kind            int
	number          int // of the declaration that it names
	at, e           expr
	rounds          uint64 // of a loop
	then, otherwise []stmt
}

// expr: an expression.
type expr struct {
	place  int
	seen   bool
	number int // of the declaration that it names; nobody, if it names none
	kids   []expr
}

// nobody is the number of no declaration.
const nobody = -1

// hasExpr: does an expression stand at a place?
func (c *code) hasExpr(place int) bool {
	_, is := slices.BinarySearch(c.exprs, place)
	return is
}

// reader goes over a program in the order of its places.
type reader struct {
	program *api.Program
	numbers map[string]int // of the declarations, by their names
	place   int            // of what comes next
	exprs   []int
}

// read: the code of a right program. That it is right is leant on: nothing is too deep for calls within one another.
func read(p *api.Program) *code {
	r := reader{program: p, numbers: make(map[string]int, len(p.Decls)), place: len(p.Decls)}
	c := &code{}
	for i := range p.Decls {
		r.numbers[p.Decls[i].Name] = i
		if p.Decls[i].Kind == api.DSecret {
			c.secrets = append(c.secrets, i)
		}
	}
	c.body = r.stmts(p.Body)
	c.exprs = r.exprs
	return c
}

func (r *reader) stmts(list []api.Stmt) []stmt {
	out := make([]stmt, len(list))
	for i := range list {
		out[i] = r.stmt(&list[i])
	}
	return out
}

func (r *reader) stmt(s *api.Stmt) stmt {
	out := stmt{kind: s.Kind, number: r.number(s.Name)}
	r.place++
	switch s.Kind {
	case api.SSet:
		out.e = r.expr(&s.E, false)
	case api.SStore:
		out.at = r.expr(&s.At, r.hasLines(out.number))
		out.e = r.expr(&s.E, false)
	case api.SIf:
		out.e = r.expr(&s.E, true)
		out.then = r.stmts(s.Then)
		out.otherwise = r.stmts(s.Else)
	case api.SFor:
		out.rounds = s.Hi - s.Lo
		out.then = r.stmts(s.Then)
	}
	return out
}

func (r *reader) expr(e *api.Expr, seen bool) expr {
	out := expr{place: r.place, seen: seen, number: r.number(e.Name), kids: make([]expr, len(e.Kids))}
	r.exprs = append(r.exprs, r.place)
	r.place++
	shown := e.Kind == api.EDiv || e.Kind == api.ERem || e.Kind == api.ELoad && r.hasLines(out.number)
	for i := range e.Kids {
		out.kids[i] = r.expr(&e.Kids[i], shown)
	}
	return out
}

// number: of the declaration of that name; nobody, if it is a loop's, or there is no name.
func (r *reader) number(name string) int {
	if number, is := r.numbers[name]; is {
		return number
	}
	return nobody
}

// hasLines: is an array in more than one line, so that an index is seen?
func (r *reader) hasLines(number int) bool { return r.program.Decls[number].Size > r.program.Line }
