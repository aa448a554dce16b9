package lang

import (
	"slices"
	"strings"
	"testing"

	"cadence/api"
)

// Copies with nothing shared.

func copyExpr(e api.Expr) api.Expr {
	e.Kids = slices.Clone(e.Kids)
	for i := range e.Kids {
		e.Kids[i] = copyExpr(e.Kids[i])
	}
	return e
}

func copyStmts(list []api.Stmt) []api.Stmt {
	list = slices.Clone(list)
	for i := range list {
		s := &list[i]
		s.At, s.E, s.Then, s.Else = copyExpr(s.At), copyExpr(s.E), copyStmts(s.Then), copyStmts(s.Else)
	}
	return list
}

func copyProgram(p api.Program) api.Program {
	p.Decls = slices.Clone(p.Decls)
	for i := range p.Decls {
		p.Decls[i].Values = slices.Clone(p.Decls[i].Values)
	}
	p.Body = copyStmts(p.Body)
	return p
}

// lists goes through all lists of a tree, each with its spare room; those within one come ahead of it.
type lists struct {
	decls  func([]api.Decl)
	values func([]uint64)
	stmts  func([]api.Stmt)
	exprs  func([]api.Expr)
}

func (l lists) ofExpr(e api.Expr) {
	for _, k := range e.Kids {
		l.ofExpr(k)
	}
	l.exprs(e.Kids)
}

func (l lists) ofStmts(list []api.Stmt) {
	for _, s := range list {
		l.ofExpr(s.At)
		l.ofExpr(s.E)
		l.ofStmts(s.Then)
		l.ofStmts(s.Else)
	}
	l.stmts(list)
}

func (l lists) of(p api.Program) {
	for _, d := range p.Decls {
		l.values(d.Values)
	}
	l.ofStmts(p.Body)
	l.decls(p.Decls)
}

// fill writes something into what lies behind a list's elements.
func fill[T any](x T) func([]T) {
	return func(list []T) {
		for i := len(list); i < cap(list); i++ {
			list[:cap(list)][i] = x
		}
	}
}

// wipe writes something over a list and its spare room.
func wipe[T any](x T) func([]T) {
	return func(list []T) {
		for i := range cap(list) {
			list[:cap(list)][i] = x
		}
	}
}

func junkLists() lists {
	return lists{fill(api.Decl{Kind: 9}), fill(uint64(77)), fill(api.Stmt{Kind: 99}), fill(api.Expr{Kind: 88})}
}

func wipeLists() lists {
	return lists{wipe(api.Decl{Kind: 9}), wipe(uint64(77)), wipe(api.Stmt{Kind: 99}), wipe(api.Expr{Kind: 88})}
}

const memoryText = `program p; width 8; line 2; public a; secret b[4]; const t[2] = 1, 2, 3; const u[1] = 4; var c; out d;
begin
  d = a + b[1] * t[c] - sel(a, ~b[2], sar(c, 1)) == slt(a, -c);
  if a < c { d = 1; c = 2; c[a - 1] = a + b + c; } else { release d; for i 0 4 { c = c + i; d = t[i]; c = 3; } }
  for j 1 2 { if j { } else { d = 5; } }
  x = (a + b) * (a + b) * (a + b);
end`

// TestHandedOut: what Parse answers is the caller's: grown, no list of it reaches another; written over, it changes no other answer (rule 4).
func TestHandedOut(t *testing.T) {
	want := copyProgram(parsed(t, memoryText))
	text := printed(t, want)
	p := parsed(t, memoryText)
	junkLists().of(p)
	if !sameProgram(p, want) {
		t.Fatal("two lists share their room")
	}
	other := parsed(t, memoryText)
	wipeLists().of(p)
	if !sameProgram(other, want) || !sameProgram(parsed(t, memoryText), want) {
		t.Fatal("two answers share their room")
	}
	is(t, "its text", printed(t, other), text)
	for i := range want.Decls { // one list alone, in a tree of its own
		p = parsed(t, memoryText)
		wipe(uint64(5))(p.Decls[i].Values)
		p.Decls[i].Values = slices.Clone(want.Decls[i].Values)
		if !sameProgram(p, want) {
			t.Fatal("a table shares its room")
		}
	}
}

// withRoom: the same lists, each with spare room that holds something.
func withRoom[T any](list []T, junk T) []T {
	if list == nil {
		return nil
	}
	out := make([]T, len(list), len(list)+3)
	copy(out, list)
	fill(junk)(out)
	return out
}

func roomExpr(e api.Expr) api.Expr {
	e.Kids = withRoom(e.Kids, api.Expr{Kind: 88})
	for i := range e.Kids {
		e.Kids[i] = roomExpr(e.Kids[i])
	}
	return e
}

func roomStmts(list []api.Stmt) []api.Stmt {
	list = withRoom(list, api.Stmt{Kind: 99})
	for i := range list {
		s := &list[i]
		s.At, s.E, s.Then, s.Else = roomExpr(s.At), roomExpr(s.E), roomStmts(s.Then), roomStmts(s.Else)
	}
	return list
}

func roomProgram(p api.Program) api.Program {
	p.Decls = withRoom(p.Decls, api.Decl{Kind: 9})
	for i := range p.Decls {
		p.Decls[i].Values = withRoom(p.Decls[i].Values, 77)
	}
	p.Body = roomStmts(p.Body)
	return p
}

// stillJunk: nobody wrote into what lies behind the elements.
func stillJunk(t *testing.T, p api.Program) {
	t.Helper()
	fine := true
	lists{
		func(l []api.Decl) {
			for _, x := range l[len(l):cap(l)] {
				fine = fine && sameDecl(x, api.Decl{Kind: 9})
			}
		},
		func(l []uint64) {
			for _, x := range l[len(l):cap(l)] {
				fine = fine && x == 77
			}
		},
		func(l []api.Stmt) {
			for _, x := range l[len(l):cap(l)] {
				fine = fine && sameStmt(x, api.Stmt{Kind: 99})
			}
		},
		func(l []api.Expr) {
			for _, x := range l[len(l):cap(l)] {
				fine = fine && sameExpr(x, api.Expr{Kind: 88})
			}
		},
	}.of(p)
	if !fine {
		t.Fatal("spare room was written over")
	}
}

// TestHandedIn: Form, Print and Expr change nothing of a tree, and what they answer does not hang on its spare room (rule 4).
func TestHandedIn(t *testing.T) {
	want := parsed(t, memoryText)
	text := printed(t, want)
	p := roomProgram(copyProgram(want))
	is(t, "form", Form(p), true)
	is(t, "its text", printed(t, p), text)
	for i := range p.Body {
		if p.Body[i].Kind == api.SSet {
			is(t, "an expression", told(t, p.Body[i].E), told(t, want.Body[i].E))
		}
	}
	if !sameProgram(p, want) {
		t.Fatal("the tree was changed")
	}
	stillJunk(t, p)
	p.Body[0].E.Kids[0] = api.Expr{Kind: 27}
	is(t, "form of a bad one", Form(p), false)
	unprinted(t, "a bad one", p, api.ErrArg)
	stillJunk(t, p)
	first := printed(t, want)
	wipeLists().of(want)
	is(t, "a text that was told", first, text)
}

// TestShared: trees whose parts are the same lists are told as trees (P1503, P1504).
func TestShared(t *testing.T) {
	e := name("a")
	for range 12 {
		e = of(api.EAdd, e, e)
	}
	text := told(t, e)
	is(t, "names", strings.Count(text, "a"), 4096)
	if !sameExpr(exprOf(t, text), e) {
		t.Fatal("another tree")
	}
	body := []api.Stmt{release("x")}
	for range 10 {
		body = []api.Stmt{branch(num(1), body, body)}
	}
	p := holding(body...)
	if !sameProgram(parsed(t, printed(t, p)), p) {
		t.Fatal("another tree")
	}
}

// TestSameAgain: the same calls have the same answers, whatever was asked between (rule 5).
func TestSameAgain(t *testing.T) {
	texts := []string{memoryText, "", "program p; begin x = 1 end", "$", "program p; begin x = " + strings.Repeat("(", 300)}
	for _, a := range texts {
		p, line, e := Parse(a)
		for _, b := range texts {
			Parse(b)
			q, line2, e2 := Parse(a)
			if !sameProgram(p, q) || line != line2 || e != e2 {
				t.Fatalf("%q, after %q: another answer", a, b)
			}
		}
	}
}
