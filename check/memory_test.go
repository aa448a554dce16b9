package check

import (
	"fmt"
	"strings"
	"sync"
	"testing"

	"cadence/api"
)

const memoryText = `width 4; line 2; public n; secret b[4]; const t[4] = 1, 2, 3, 4; out y[2]; var c[8]; out d; secret k;
begin
  d = n + t[n] - sel(n, ~b[2], sar(d, 1));
  release d;
  if n < d { d = (k * k) & 2; c[n - d] = n + b[0] + d; } else { release k; for i 0 2 { c[i] = d + i; d = t[i]; y[i] = d / k; } }
  if (k & 1) > 1 { b[n] = n; }
  if k == 7 { d = 1; }
end`

// withRoom: the same list, with spare room that holds something.
func withRoom[T any](list []T, junk T) []T {
	out := make([]T, len(list), len(list)+3)
	copy(out, list)
	for i := len(out); i < cap(out); i++ {
		out[:cap(out)][i] = junk
	}
	return out
}

// open: a list with its spare room as part of it.
func open[T any](list []T) []T { return list[:cap(list)] }

func roomyExpr(e api.Expr) api.Expr {
	e.Kids = withRoom(e.Kids, api.Expr{Kind: api.ENum, Num: 3})
	for i := range e.Kids {
		e.Kids[i] = roomyExpr(e.Kids[i])
	}
	return e
}

func roomyBody(list []api.Stmt) []api.Stmt {
	list = withRoom(list, api.Stmt{Kind: api.SRelease, Name: "k"})
	for i := range list {
		s := &list[i]
		s.At, s.E, s.Then, s.Else = roomyExpr(s.At), roomyExpr(s.E), roomyBody(s.Then), roomyBody(s.Else)
	}
	return list
}

// roomy: a program whose lists all have spare room that holds something.
func roomy(p api.Program) api.Program {
	p.Decls = withRoom(p.Decls, api.Decl{Kind: api.DSecret, Name: "z", Size: 8})
	for i := range p.Decls {
		p.Decls[i].Values = withRoom(p.Decls[i].Values, 77)
	}
	p.Body = roomyBody(p.Body)
	return p
}

func wholeExpr(e api.Expr) string {
	text := fmt.Sprint(open(e.Kids))
	for _, kid := range e.Kids {
		text += wholeExpr(kid)
	}
	return text
}

func wholeBody(list []api.Stmt) string {
	text := fmt.Sprint(open(list))
	for _, s := range list {
		text += wholeExpr(s.At) + wholeExpr(s.E) + wholeBody(s.Then) + wholeBody(s.Else)
	}
	return text
}

// whole: all of a program, with spare room.
func whole(p api.Program) string {
	text := fmt.Sprint(p.Name, p.Width, p.Line, open(p.Decls)) + wholeBody(p.Body)
	for _, d := range p.Decls {
		text += fmt.Sprint(open(d.Values))
	}
	return text
}

// memoryBudgets: with which the program comes to several Kinds.
func memoryBudgets() []api.Budget {
	return []api.Budget{bounded(api.CDecisions, 100000), bounded(api.CTerms, 40), bounded(api.CPaths, 1), bounded(api.CDecisions, 2)}
}

// toldOf: all that is told of a program with a budget, as text.
func toldOf(p api.Program, b api.Budget) string {
	v := Program(p, b)
	l, w := Queries(p, b)
	return fmt.Sprintf("%+v %+v %q", v, w, fmt.Sprint(l))
}

// TestHandedIn: what is handed in is not changed, spare room neither (rule 4).
func TestHandedIn(t *testing.T) {
	p := roomy(right(t, memoryText))
	before := whole(p)
	kinds := ""
	for _, b := range memoryBudgets() {
		is(t, "with spare room", toldOf(p, b), toldOf(right(t, memoryText), b))
		is(t, "the program", whole(p), before)
		kinds += kindWord(Program(p, b).Kind) + " "
	}
	is(t, "Kinds", kinds, "Leak Unknown Unknown Unknown ")
	p.Width = 5
	before = whole(p)
	is(t, "refused", Program(p, noBound()), api.Verdict{Kind: api.Reject, Code: api.ErrWidth})
	is(t, "the program", whole(p), before)
	v := Check(text(memoryText), memoryBudgets()[0])
	v.X, v.Y = withRoom(v.X, 9), withRoom(v.Y, 8)
	words := fmt.Sprint(open(v.X), open(v.Y))
	is(t, "it holds", Hold(text(memoryText), v), true)
	is(t, "its words", fmt.Sprint(open(v.X), open(v.Y)), words)
}

// TestHandedOut: what is handed out is new memory, spare room too: what is written into it, no other sees (rule 4).
func TestHandedOut(t *testing.T) {
	p := right(t, memoryText)
	b := memoryBudgets()[0]
	want := toldOf(p, b)
	for range 3 {
		v := Program(p, b)
		y := fmt.Sprint(v.Y)
		clear(open(v.X))
		_ = append(v.X, 7, 8, 9)
		is(t, "Y", fmt.Sprint(v.Y), y)
		clear(open(v.Y))
		l, w := Queries(p, b)
		whole := fmt.Sprintf("%q", fmt.Sprint(l[1:]))
		clear(open(l[0].Truths))
		_ = append(l[0].Truths, "a", "b", "c")
		is(t, "other queries", fmt.Sprintf("%q", fmt.Sprint(l[1:])), whole)
		clear(open(w.X))
		clear(open(l))
		is(t, "what is told", toldOf(p, b), want)
	}
	l, _ := Queries(p, b)
	for i := range l { // each list of truths by itself: those of one query are not those of the next
		for j := range l {
			if i != j {
				before := strings.Join(l[j].Truths, "|")
				grown := append(l[i].Truths, "more")
				grown[0] = "turned"
				is(t, "another's truths", strings.Join(l[j].Truths, "|"), before)
				l, _ = Queries(p, b)
			}
		}
	}
}

// TestAgain: the same calls have the same answers, also where others are refused between them (rule 5).
func TestAgain(t *testing.T) {
	p := right(t, memoryText)
	for _, b := range memoryBudgets() {
		want := toldOf(p, b)
		for range 3 {
			Check("program", b)
			Program(api.Program{}, b)
			Hold("", api.Verdict{})
			Run(text(memoryText), b, closed())
			is(t, "what is told", toldOf(p, b), want)
		}
	}
}

// TestAtOnce: checks of one tree at the same time (rule 5).
func TestAtOnce(t *testing.T) {
	p := right(t, memoryText)
	b := memoryBudgets()[0]
	want := toldOf(p, b)
	got := make([]string, 8)
	var all sync.WaitGroup
	for i := range got {
		all.Go(func() {
			for range 3 {
				got[i] = toldOf(p, b)
			}
		})
	}
	all.Wait()
	for _, s := range got {
		is(t, "at once", s, want)
	}
}
