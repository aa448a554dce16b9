package wf

import "cadence/api"

// thing: what stands at a place: just one of a declaration, a statement, an expression; none of them, if it is the whole program, which has the place -1.
type thing struct {
	place int
	decl  *api.Decl
	stmt  *api.Stmt
	expr  *api.Expr
	deep  int   // of a statement
	top   bool  // of an expression: it stands in a statement, not in another one
	loops *loop // those in whose Then it is, the nearest first
}

// loop: a link of the list of the loops around a place.
type loop struct {
	name  string
	outer *loop
}

// has: is there a loop of that name?
func (l *loop) has(name string) bool {
	for ; l != nil; l = l.outer {
		if l.name == name {
			return true
		}
	}
	return false
}

// found: the thing that was looked for, as a panic that ends the walk.
type found struct{ thing thing }

// first: the first thing for which something holds, of those that a walk goes over.
func (x *subject) first(over walk, holds func(x *subject, t thing) bool) (t thing, is bool) {
	defer func() {
		if why := recover(); why != nil {
			t, is = why.(found).thing, true
		}
	}()
	over(x, func(t thing) {
		if holds(x, t) {
			panic(found{t})
		}
	})
	return thing{}, false
}

// walk goes over things in the order of their places.
type walk func(x *subject, visit func(t thing))

// whole goes over the program alone.
func (x *subject) whole(visit func(t thing)) { visit(thing{place: -1}) }

// decls goes over the declarations.
func (x *subject) decls(visit func(t thing)) {
	list := x.program.Decls
	for i := range list {
		visit(thing{place: i, decl: &list[i]})
	}
}

// things goes over all that has a place.
func (x *subject) things(visit func(t thing)) {
	x.decls(visit)
	w := walker{visit: visit, place: len(x.program.Decls)}
	w.enter(block{stmts: x.program.Body, deep: 1})
	for len(w.blocks) > 0 {
		w.step()
	}
}

// walker goes over statements and expressions. What is left lies in lists, not in calls within one another: a tree may be far deeper than a program is.
type walker struct {
	visit  func(t thing)
	place  int         // of what comes next
	blocks []block     // those that stand within others behind these
	exprs  []*api.Expr // the next one last
}

// block: statements one behind the other, as far as they are left.
type block struct {
	stmts []api.Stmt
	deep  int
	loops *loop
}

// enter lays a block ahead of what is left, if it has a statement.
func (w *walker) enter(b block) {
	if len(b.stmts) > 0 {
		w.blocks = append(w.blocks, b)
	}
}

// next: the statement that comes, with how deep it is and the loops around it.
func (w *walker) next() (*api.Stmt, int, *loop) {
	last := len(w.blocks) - 1
	b := w.blocks[last]
	w.blocks[last].stmts = b.stmts[1:]
	if len(b.stmts) == 1 {
		w.blocks = w.blocks[:last]
	}
	return &b.stmts[0], b.deep, b.loops
}

// step goes over a statement and its expressions, and lays its blocks ahead of what is left.
func (w *walker) step() {
	s, deep, loops := w.next()
	w.tell(thing{stmt: s, deep: deep, loops: loops})
	w.expr(&s.At, loops)
	w.expr(&s.E, loops)
	w.enter(block{s.Else, deep + 1, loops})
	if s.Kind == api.SFor {
		loops = &loop{s.Name, loops}
	}
	w.enter(block{s.Then, deep + 1, loops})
}

// expr goes over an expression, if there is one.
func (w *walker) expr(e *api.Expr, loops *loop) {
	if e.Kind == 0 {
		return
	}
	w.tell(thing{expr: e, top: true, loops: loops})
	w.parts(e)
	for len(w.exprs) > 0 {
		last := len(w.exprs) - 1
		e, w.exprs = w.exprs[last], w.exprs[:last]
		w.tell(thing{expr: e, loops: loops})
		w.parts(e)
	}
}

// parts lays the parts of an expression ahead of what is left.
func (w *walker) parts(e *api.Expr) {
	for i := len(e.Kids) - 1; i >= 0; i-- {
		w.exprs = append(w.exprs, &e.Kids[i])
	}
}

// tell visits a thing at the place that comes.
func (w *walker) tell(t thing) {
	t.place = w.place
	w.place++
	w.visit(t)
}
