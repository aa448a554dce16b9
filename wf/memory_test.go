package wf

import (
	"fmt"
	"reflect"
	"slices"
	"sync"
	"testing"

	"cadence/api"
)

const memoryText = `width 8; line 2; public n; secret b[4]; const t[2] = 1, 2; const u[1] = 4; var c[8]; out d;
begin
  d = n + b[1] * t[n] - sel(n, ~b[2], sar(d, 1)) == slt(n, -d);
  if n < d { d = 1; release d; c[n - 1] = n + b[0] + d; } else { release d; for i 0 4 { c[i] = d + i; d = t[i]; d = 3; } }
  for j 1 2 { if j { } else { d = 5; } for i 0 3 { } }
end`

// memoryTrees: a right one, and others that are refused by an early, a middle and a late clause.
func memoryTrees(t *testing.T) []api.Program {
	loops := parsed(t, memoryText)
	loops.Body[2].Then[1].Name = "j"
	return []api.Program{
		parsed(t, memoryText), loops, parsed(t, "begin end"), parsed(t, "width 5; begin x = y; end"),
		parsed(t, "out x; out x; begin x = 1; end"), parsed(t, "const t[2] = 1, 2, 3; out x; begin x = t[1]; end"), parsed(t, "out x; begin for i 0 300 { for j 0 300 { x = x; } } end"),
		base(set("x", api.Expr{Kind: 27})),
	}
}

// withRoom: the same list, with spare room that holds something.
func withRoom[T any](list []T, junk T) []T {
	out := make([]T, len(list), len(list)+3)
	copy(out, list)
	for i := len(out); i < cap(out); i++ {
		out[:cap(out)][i] = junk
	}
	return out
}

func roomExpr(e api.Expr) api.Expr {
	e.Kids = withRoom(e.Kids, api.Expr{Kind: 88})
	for i := range e.Kids {
		e.Kids[i] = roomExpr(e.Kids[i])
	}
	return e
}

func roomStmts(list []api.Stmt) []api.Stmt {
	list = withRoom(list, api.Stmt{Kind: 99})
	for i := range list {
		s := &list[i]
		s.At, s.E, s.Then, s.Else = roomExpr(s.At), roomExpr(s.E), roomStmts(s.Then), roomStmts(s.Else)
	}
	return list
}

func roomProgram(p api.Program) api.Program {
	p.Decls = withRoom(p.Decls, api.Decl{Kind: 9})
	for i := range p.Decls {
		p.Decls[i].Values = withRoom(p.Decls[i].Values, 77)
	}
	p.Body = roomStmts(p.Body)
	return p
}

// Trees with their spare room as part of them, so that they can be compared whole.

func openExpr(e api.Expr) api.Expr {
	e.Kids = slices.Clone(e.Kids[:cap(e.Kids)])
	for i := range e.Kids {
		e.Kids[i] = openExpr(e.Kids[i])
	}
	return e
}

func openStmts(list []api.Stmt) []api.Stmt {
	list = slices.Clone(list[:cap(list)])
	for i := range list {
		s := &list[i]
		s.At, s.E, s.Then, s.Else = openExpr(s.At), openExpr(s.E), openStmts(s.Then), openStmts(s.Else)
	}
	return list
}

func openProgram(p api.Program) api.Program {
	p.Decls = slices.Clone(p.Decls[:cap(p.Decls)])
	for i := range p.Decls {
		p.Decls[i].Values = slices.Clone(p.Decls[i].Values[:cap(p.Decls[i].Values)])
	}
	p.Body = openStmts(p.Body)
	return p
}

// answers: all that the calls answer of a program.
func answers(p api.Program) string {
	number, place, e := Fault(p)
	size, bad := Size(p)
	things, worse := Things(p)
	out := fmt.Sprint(Check(p), number, place, e, size, bad, things, worse)
	for i := -1; i <= things; i++ {
		list, e := Names(p, i)
		out += fmt.Sprint(list, e)
	}
	return out
}

// TestHandedIn: no call changes a tree or its spare room, nor do the answers hang on that (rule 4).
func TestHandedIn(t *testing.T) {
	if reflect.DeepEqual(openProgram(roomProgram(base())), base()) {
		t.Fatal("the room is not seen")
	}
	for _, bare := range memoryTrees(t) {
		want := answers(copyProgram(bare))
		p := roomProgram(bare)
		before := openProgram(p)
		is(t, "with spare room", answers(p), want)
		if !reflect.DeepEqual(openProgram(p), before) {
			t.Fatal("the tree, or its spare room, was changed")
		}
		is(t, "without lists that are nil", answers(emptied(bare)), want)
	}
}

// emptied: a program whose lists without an element are empty, not nil.
func emptied(p api.Program) api.Program {
	p = roomProgram(p)
	var cut func(list []api.Stmt)
	cut = func(list []api.Stmt) {
		for i := range list {
			s := &list[i]
			s.Then, s.Else = s.Then[:len(s.Then):len(s.Then)], s.Else[:len(s.Else):len(s.Else)]
			cut(s.Then)
			cut(s.Else)
		}
	}
	cut(p.Body)
	return p
}

// TestHandedOut: what Names answers is the caller's: written over and grown, it changes nothing (rule 4).
func TestHandedOut(t *testing.T) {
	p := parsed(t, memoryText)
	want := answers(p)
	n := thingsOf(t, p)
	var lists, copies [][]string
	for place := range n {
		a, _ := Names(p, place)
		lists, copies = append(lists, a), append(copies, slices.Clone(a))
	}
	for place, a := range lists {
		whole := a[:cap(a)]
		for i := range whole {
			whole[i] = "junk"
		}
		a = append(a, "more", "and", "more")
		is(t, "grown", len(a), len(copies[place])+3)
		for other := place + 1; other < n; other++ {
			if !slices.Equal(lists[other], copies[other]) {
				t.Fatalf("the names at %d and at %d share their room", place, other)
			}
		}
	}
	is(t, "asked again", answers(p), want)
	is(t, "the tree", p, parsed(t, memoryText))
}

// TestNotKept: what was answered stays, whatever becomes of the tree; nothing is kept from call to call (rule 4, rule 5).
func TestNotKept(t *testing.T) {
	p := parsed(t, memoryText)
	last := thingsOf(t, p) - 1
	list, _ := Names(p, last)
	before := slices.Clone(list)
	for i := range p.Decls {
		p.Decls[i] = single(api.DVar, fmt.Sprint("other", i))
	}
	for i := range p.Body {
		p.Body[i] = release("other0")
	}
	is(t, "the names", list, before)
	right(t, "another tree in the same room", p)
	is(t, "its names", namesAt(t, p, 0), "")
	is(t, "its things", thingsOf(t, p), 6+3)
	trees := memoryTrees(t)
	for _, a := range trees {
		want := answers(a)
		for _, b := range trees {
			answers(b)
			is(t, "asked between", answers(a), want)
		}
	}
}

// TestAtOnce: calls at the same time on the same tree have the same answers (rule 5).
func TestAtOnce(t *testing.T) {
	p := parsed(t, memoryText)
	want := answers(p)
	got := make([]string, 8)
	var all sync.WaitGroup
	for i := range got {
		all.Go(func() {
			for range 20 {
				got[i] = answers(p)
			}
		})
	}
	all.Wait()
	for _, s := range got {
		is(t, "at once", s, want)
	}
}

// TestShared: parts of a tree that are the same lists count as often as they stand there (F16.2, F16.3).
func TestShared(t *testing.T) {
	sizeIs(t, "a bush", base(set("x", bush(10))), 1+2047)
	is(t, "its things", thingsOf(t, base(set("x", bush(10)))), 3+1+2047)
	body := list(release("x"))
	for range 10 {
		body = list(branch(num(1), body, body))
	}
	sizeIs(t, "ifs", base(body...), 1024+2*1023)
	is(t, "their things", thingsOf(t, base(body...)), 3+1024+2*1023)
}
