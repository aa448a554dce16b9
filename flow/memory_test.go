package flow

import (
	"fmt"
	"reflect"
	"slices"
	"sync"
	"testing"

	"cadence/api"
	"cadence/wf"
)

const memoryText = `width 8; line 2; public n; secret b[4]; const t[4] = 1, 2, 3, 4; out y[2]; const u[1] = 4; var c[8]; out d; secret k; secret l;
begin
  d = n + b[1] * t[n] - sel(n, ~b[2], sar(d, 1)) == slt(n, -l);
  if n < d { d = 1; release d; c[n - 1] = n + b[0] + d; } else { release d; for i 0 4 { c[i] = d + i; d = t[k]; y[i] = d / 3 + u[0]; } }
  for j 1 2 { if j { b[j] = k; } else { d = l; } for i 0 3 { } }
  for j 2 2 { if k { } }
end`

func memoryTexts() []string {
	return []string{memoryText, "secret k; out x; begin if k { x = 1; } end", "secret k; out x; begin x = k; end", "begin end", "width 5; begin end", "secret k; out x; begin x = y; end"}
}

// withRoom: the same list, with spare room that holds something.
func withRoom[T any](list []T, junk T) []T {
	out := make([]T, len(list), len(list)+3)
	copy(out, list)
	for i := len(out); i < cap(out); i++ {
		out[:cap(out)][i] = junk
	}
	return out
}

// open: a list with its spare room as part of it.
func open[T any](list []T) []T { return slices.Clone(list[:cap(list)]) }

// eachList goes over all lists of a program, from the outside in, and puts others in their place.
type eachList struct {
	decls  func([]api.Decl) []api.Decl
	values func([]uint64) []uint64
	stmts  func([]api.Stmt) []api.Stmt
	exprs  func([]api.Expr) []api.Expr
}

func (l eachList) expr(e api.Expr) api.Expr {
	e.Kids = l.exprs(e.Kids)
	for i := range e.Kids {
		e.Kids[i] = l.expr(e.Kids[i])
	}
	return e
}

func (l eachList) body(list []api.Stmt) []api.Stmt {
	list = l.stmts(list)
	for i := range list {
		s := &list[i]
		s.At, s.E, s.Then, s.Else = l.expr(s.At), l.expr(s.E), l.body(s.Then), l.body(s.Else)
	}
	return list
}

func (l eachList) program(p api.Program) api.Program {
	p.Decls = l.decls(p.Decls)
	for i := range p.Decls {
		p.Decls[i].Values = l.values(p.Decls[i].Values)
	}
	p.Body = l.body(p.Body)
	return p
}

// roomy: a program whose lists all have spare room that holds something.
func roomy(p api.Program) api.Program {
	return eachList{
		func(list []api.Decl) []api.Decl { return withRoom(list, api.Decl{Kind: api.DSecret, Name: "z"}) },
		func(list []uint64) []uint64 { return withRoom(list, 77) },
		func(list []api.Stmt) []api.Stmt { return withRoom(list, api.Stmt{Kind: 99}) },
		func(list []api.Expr) []api.Expr { return withRoom(list, api.Expr{Kind: 88}) },
	}.program(p)
}

// opened: a program with its spare room as part of it, so that it can be compared whole.
func opened(p api.Program) api.Program {
	return eachList{open[api.Decl], open[uint64], open[api.Stmt], open[api.Expr]}.program(p)
}

// answers: all that the calls answer of a program.
func answers(p api.Program) string {
	place, e := Check(p)
	high, f := High(p)
	ends, g := Ends(p)
	text := fmt.Sprint(place, e, high, f, ends, g)
	n, _ := wf.Things(p)
	for at := -1; at <= n; at++ {
		list, e := Sources(p, at)
		text += fmt.Sprint(" ", list, e)
	}
	return text
}

// TestHandedIn: no call changes what it is handed, or its spare room, nor do the answers hang on that (rule 4).
func TestHandedIn(t *testing.T) {
	for _, text := range memoryTexts() {
		bare := parsed(t, text)
		want := answers(bare)
		p := roomy(bare)
		before := opened(p)
		is(t, "with spare room", answers(p), want)
		if !reflect.DeepEqual(opened(p), before) {
			t.Fatal("the program, or its spare room, was changed")
		}
		if !reflect.DeepEqual(bare, parsed(t, text)) {
			t.Fatal("the program was changed")
		}
	}
}

// spoil writes over a list and its spare room, and grows it.
func spoil[T any](list []T, junk T) {
	whole := list[:cap(list)]
	for i := range whole {
		whole[i] = junk
	}
	for range 5 {
		list = append(list, junk)
	}
}

// TestHandedOut: what is handed out is the caller's: written over and grown, it changes nothing (rule 4).
func TestHandedOut(t *testing.T) {
	for _, text := range memoryTexts() {
		p := parsed(t, text)
		want := answers(p)
		high, _ := High(p)
		ends, _ := Ends(p)
		lists := append([][]int{high}, ends...)
		for place := range exprsOf(p) {
			list, _ := Sources(p, place)
			lists = append(lists, list)
		}
		var copies [][]int
		for _, list := range lists {
			copies = append(copies, slices.Clone(list))
		}
		for i, list := range lists {
			spoil(list, 99)
			for j := i + 1; j < len(lists); j++ {
				if !slices.Equal(lists[j], copies[j]) {
					t.Fatalf("the lists %d and %d share their room", i, j)
				}
			}
		}
		spoil(ends, []int{7})
		is(t, "asked again", answers(p), want)
		if !reflect.DeepEqual(p, parsed(t, text)) {
			t.Fatal("the program was changed")
		}
	}
}

// TestNotKept: what was answered stays, whatever becomes of what was handed in; nothing is kept from call to call (rules 4 and 5).
func TestNotKept(t *testing.T) {
	p := parsed(t, memoryText)
	high, _ := High(p)
	ends, _ := Ends(p)
	sources, _ := Sources(p, high[0])
	before := fmt.Sprint(high, ends, sources)
	for i := range p.Decls {
		clear(p.Decls[i].Values)
		p.Decls[i] = api.Decl{Kind: api.DVar, Name: fmt.Sprint("other", i)}
	}
	clear(p.Body)
	is(t, "what was answered", fmt.Sprint(high, ends, sources), before)
	for _, one := range memoryTexts() {
		want := answers(parsed(t, one))
		for _, two := range memoryTexts() {
			answers(parsed(t, two))
			is(t, "asked between", answers(parsed(t, one)), want)
		}
	}
}

// TestAtOnce: calls at the same time on the same program have the same answers (rule 5).
func TestAtOnce(t *testing.T) {
	p := parsed(t, memoryText)
	want := answers(p)
	got := make([]string, 8)
	var all sync.WaitGroup
	for i := range got {
		all.Go(func() {
			for range 20 {
				got[i] = answers(p)
			}
		})
	}
	all.Wait()
	for _, s := range got {
		is(t, "at once", s, want)
	}
}

// TestSharedParts: a program whose parts are the same lists: each place is its own all the same.
func TestSharedParts(t *testing.T) {
	p := parsed(t, "secret k; out x; var a[2]; begin if x { x = x / a[x]; a[x] = k; } end")
	p.Body[0].Else = p.Body[0].Then
	p.Body = append(p.Body, p.Body[0], p.Body[0])
	want := copyProgram(p)
	is(t, "as if nothing were shared", answers(p), answers(want))
	// 3 the if, 4 x, 5 x = .., 6 /, 7 x, 8 a[x], 9 x, 10 the store, 11 x, 12 k, 13 to 20 once more; 21 the second if, in which a[x] has a source, and so has x behind that; 39 the third one
	is(t, "high", highOf(t, p)[:5], []int{26, 29, 34, 37, 40})
	is(t, "in the first if", sourcesAt(t, p, 8), []int{})
	is(t, "in the second one", sourcesAt(t, p, 26), []int{0})
	k := picker(1)
	heldPlainly(t, &k, p)
	e := api.Expr{Kind: api.EName, Name: "k"}
	for range 6 { // a tree of which each half is the other
		e = api.Expr{Kind: api.EDiv, Kids: slices.Repeat([]api.Expr{e}, 2)}
	}
	p.Body = []api.Stmt{{Kind: api.SSet, Name: "x", E: e}}
	is(t, "a tree of halves", len(highOf(t, p)), 2+4+8+16+32+64)
}
