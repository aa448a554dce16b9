package run

import (
	"fmt"
	"reflect"
	"slices"
	"sync"
	"testing"

	"cadence/api"
)

const memoryText = `width 8; line 2; public n; secret b[4]; const t[2] = 1, 2; out y[2]; const u[1] = 4; var c[8]; out d; secret k;
begin
  d = n + b[1] * t[n] - sel(n, ~b[2], sar(d, 1)) == slt(n, -d);
  if n < d { d = 1; release d; c[n - 1] = n + b[0] + d; } else { release d; for i 0 4 { c[i] = d + i; d = t[i]; y[i] = d / 3 + u[0]; } }
  for j 1 2 { if j { b[j] = k; } else { d = 5; } for i 0 3 { } }
end`

func memoryInputs() []uint64 { return words(3, 10, 20, 30, 40, 50) }

// withRoom: the same list, with spare room that holds something.
func withRoom[T any](list []T, junk T) []T {
	out := make([]T, len(list), len(list)+3)
	copy(out, list)
	for i := len(out); i < cap(out); i++ {
		out[:cap(out)][i] = junk
	}
	return out
}

// open: a list with its spare room as part of it.
func open[T any](list []T) []T { return slices.Clone(list[:cap(list)]) }

// eachList goes over all lists of a program, from the outside in, and puts others in their place.
type eachList struct {
	decls  func([]api.Decl) []api.Decl
	values func([]uint64) []uint64
	stmts  func([]api.Stmt) []api.Stmt
	exprs  func([]api.Expr) []api.Expr
}

func (l eachList) expr(e api.Expr) api.Expr {
	e.Kids = l.exprs(e.Kids)
	for i := range e.Kids {
		e.Kids[i] = l.expr(e.Kids[i])
	}
	return e
}

func (l eachList) body(list []api.Stmt) []api.Stmt {
	list = l.stmts(list)
	for i := range list {
		s := &list[i]
		s.At, s.E, s.Then, s.Else = l.expr(s.At), l.expr(s.E), l.body(s.Then), l.body(s.Else)
	}
	return list
}

func (l eachList) program(p api.Program) api.Program {
	p.Decls = l.decls(p.Decls)
	for i := range p.Decls {
		p.Decls[i].Values = l.values(p.Decls[i].Values)
	}
	p.Body = l.body(p.Body)
	return p
}

// roomy: a program whose lists all have spare room that holds something.
func roomy(p api.Program) api.Program {
	return eachList{
		func(list []api.Decl) []api.Decl { return withRoom(list, api.Decl{Kind: 9}) },
		func(list []uint64) []uint64 { return withRoom(list, 77) },
		func(list []api.Stmt) []api.Stmt { return withRoom(list, api.Stmt{Kind: 99}) },
		func(list []api.Expr) []api.Expr { return withRoom(list, api.Expr{Kind: 88}) },
	}.program(p)
}

// opened: a program with its spare room as part of it, so that it can be compared whole.
func opened(p api.Program) api.Program {
	return eachList{open[api.Decl], open[uint64], open[api.Stmt], open[api.Expr]}.program(p)
}

// answers: all that the calls answer of a program and inputs.
func answers(p api.Program, x, y []uint64) string {
	n, e := Length(p)
	public, f := Public(p)
	a, g := Run(p, x)
	b, h := Run(p, y)
	out, i := Outputs(p, a)
	k, differ := Differ(a.Trace, b.Trace)
	leaks, at, j := Leaks(p, x, y)
	return fmt.Sprint(n, e, public, f, a, g, b, h, out, i, k, differ, leaks, at, j)
}

// TestHandedIn: no call changes what it is handed, or its spare room, nor do the answers hang on that (rule 4).
func TestHandedIn(t *testing.T) {
	for _, text := range []string{memoryText, exampleText, "begin end", "width 5; begin end", "secret k; out x; begin x = y; end"} {
		bare := parsed(t, text)
		for _, in := range [][]uint64{memoryInputs(), words(1, 2), nil} {
			other := slices.Clone(in)
			if len(in) > 3 {
				other[3]++
			}
			want := answers(bare, in, other)
			p, x, y := roomy(bare), withRoom(in, 66), withRoom(other, 55)
			before := opened(p)
			openX, openY := open(x), open(y)
			is(t, "with spare room", answers(p, x, y), want)
			if !reflect.DeepEqual(opened(p), before) {
				t.Fatal("the program, or its spare room, was changed")
			}
			is(t, "the inputs", [][]uint64{open(x), open(y)}, [][]uint64{openX, openY})
		}
	}
}

// TestRunHandedIn: states and traces that are handed in stay as they are, and their spare room (rule 4).
func TestRunHandedIn(t *testing.T) {
	p := parsed(t, memoryText)
	a, _ := Run(p, memoryInputs())
	state := withRoom(a.State, words(44))
	for i := range state {
		state[i] = withRoom(state[i], 33)
	}
	trace := withRoom(a.Trace, api.Event{Kind: 22})
	shorter := withRoom(a.Trace[:2], api.Event{Kind: 21})
	tell := func() string {
		text := fmt.Sprint(open(trace), open(shorter))
		for _, list := range open(state) {
			text += fmt.Sprint(open(list))
		}
		return text
	}
	before := tell()
	want, _ := Outputs(p, a)
	outputsAre(t, p, api.Ended{State: state, Trace: trace}, want...)
	outputsFail(t, p, state[:1]...)
	differIs(t, trace, shorter, 2, true)
	differIs(t, shorter, trace[:2], 0, false)
	is(t, "what was handed in", tell(), before)
}

// listsOf: all lists of words in an answer.
func listsOf(a api.Ended, out []uint64) [][]uint64 { return append(slices.Clone(a.State), out) }

// spoil writes over a list and its spare room, and grows it.
func spoil[T any](list []T, junk T) {
	whole := list[:cap(list)]
	for i := range whole {
		whole[i] = junk
	}
	for range 5 {
		list = append(list, junk)
	}
}

// TestHandedOut: what is handed out is the caller's: written over and grown, it changes nothing (rule 4).
func TestHandedOut(t *testing.T) {
	p, in := parsed(t, memoryText), memoryInputs()
	want, tree := answers(p, in, in), fmt.Sprint(p)
	a, _ := Run(p, in)
	out, _ := Outputs(p, a)
	again, _ := Outputs(p, a)
	kept := fmt.Sprint(a.State)
	spoil(again, 99)
	is(t, "the state that outputs were told of", fmt.Sprint(a.State), kept)
	lists := listsOf(a, out)
	var copies [][]uint64
	for _, list := range lists {
		copies = append(copies, slices.Clone(list))
	}
	trace := slices.Clone(a.Trace)
	for i, list := range lists {
		spoil(list, 99)
		for j := i + 1; j < len(lists); j++ {
			if !slices.Equal(lists[j], copies[j]) {
				t.Fatalf("the lists %d and %d share their room", i, j)
			}
		}
	}
	is(t, "the trace", a.Trace, trace)
	spoil(a.Trace, api.Event{Kind: 77})
	spoil(a.State, words(1))
	public, _ := Public(p)
	spoil(public, true)
	is(t, "asked again", answers(p, in, in), want)
	is(t, "the program", fmt.Sprint(p), tree)
	is(t, "the inputs", in, memoryInputs())
}

// TestNotKept: what was answered stays, whatever becomes of what was handed in; nothing is kept from call to call (rule 4, rule 5).
func TestNotKept(t *testing.T) {
	p, in := parsed(t, memoryText), memoryInputs()
	a, _ := Run(p, in)
	out, _ := Outputs(p, a)
	public, _ := Public(p)
	before := fmt.Sprint(a, out, public)
	clear(in)
	for i := range p.Decls {
		clear(p.Decls[i].Values)
		p.Decls[i] = api.Decl{Kind: api.DVar, Name: fmt.Sprint("other", i)}
	}
	clear(p.Body)
	is(t, "what was answered", fmt.Sprint(a, out, public), before)
	for i := range a.State {
		clear(a.State[i])
	}
	is(t, "the outputs", out, words(4, 4, 2))
	trees := []api.Program{parsed(t, memoryText), parsed(t, exampleText), parsed(t, "begin end"), parsed(t, "width 5; begin end")}
	for _, one := range trees {
		for _, x := range [][]uint64{memoryInputs(), words(1, 2), nil} {
			want := answers(one, x, x)
			for _, two := range trees {
				answers(two, memoryInputs(), memoryInputs())
				answers(two, words(7, 8), words(9, 8))
				is(t, "asked between", answers(one, x, x), want)
			}
		}
	}
}

// TestAtOnce: calls at the same time on the same program have the same answers (rule 5).
func TestAtOnce(t *testing.T) {
	p, in := parsed(t, memoryText), memoryInputs()
	other := words(3, 10, 20, 31, 40, 51)
	want := answers(p, in, other)
	got := make([]string, 8)
	var all sync.WaitGroup
	for i := range got {
		all.Go(func() {
			for range 20 {
				got[i] = answers(p, in, other)
			}
		})
	}
	all.Wait()
	for _, s := range got {
		is(t, "at once", s, want)
	}
}

// TestSharedParts: a program whose parts are the same lists, and inputs that are the same list (rule 4).
func TestSharedParts(t *testing.T) {
	p := parsed(t, "width 8; secret k; out x; var a[2]; begin if k { x = x + 1; a[x] = x; } end")
	p.Body[0].Else = p.Body[0].Then
	p.Body = append(p.Body, p.Body[0], p.Body[0])
	endOf(t, p, words(0))
	is(t, "its state", toldState(endOf(t, p, words(3)).State), "(3) (3) (2 3)")
	in := words(3)
	leakIs(t, p, in, in, false, 0)
	trace := endOf(t, p, in).Trace
	differIs(t, trace, trace, 0, false)
	differIs(t, trace, trace[:4], 4, true)
}
