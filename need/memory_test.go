package need

import (
	"fmt"
	"slices"
	"sync"
	"testing"

	"cadence/api"
)

const memoryText = `width 8; line 2; public n; secret b[4]; const t[2] = 1, 2; out y[2]; var c[8]; out d; secret k;
begin
  d = n + b[1] * t[n] - sel(n, ~b[2], sar(d, 1)) == slt(n, -d);
  if n < d { d = 1; release d; c[n - 1] = n + b[0] + d; } else { release d; for i 0 4 { c[i] = d + i; d = t[i]; y[i] = d / 3; } }
  for j 1 3 { if j { b[j] = k; if k { d = d + j; } } else { d = 5; k = 7; } }
end`

// withRoom: the same list, with spare room that holds something.
func withRoom[T any](list []T, junk T) []T {
	out := make([]T, len(list), len(list)+3)
	copy(out, list)
	for i := len(out); i < cap(out); i++ {
		out[:cap(out)][i] = junk
	}
	return out
}

// open: a list with its spare room as part of it.
func open[T any](list []T) []T { return slices.Clone(list[:cap(list)]) }

func roomyDecls(list []api.Decl) []api.Decl {
	list = withRoom(list, api.Decl{Kind: api.DSecret, Name: "z", Size: 8})
	for i := range list {
		list[i].Values = withRoom(list[i].Values, 77)
	}
	return list
}

func toldDecls(list []api.Decl) string {
	text := fmt.Sprint(open(list))
	for _, d := range list {
		text += fmt.Sprint(open(d.Values))
	}
	return text
}

// roomyCode: instructions whose lists all have spare room that holds something.
func roomyCode(list []api.Ins) []api.Ins {
	list = withRoom(list, ins(api.EDiv))
	for i := range list {
		list[i].Then, list[i].Else = roomyCode(list[i].Then), roomyCode(list[i].Else)
	}
	return list
}

func toldCode(list []api.Ins) string {
	text := fmt.Sprint(open(list))
	for _, x := range list {
		text += toldCode(x.Then) + toldCode(x.Else)
	}
	return text
}

// roomyStmts: statements likewise.
func roomyStmts(list []api.Stmt) []api.Stmt {
	list = withRoom(list, api.Stmt{Kind: 99})
	for i := range list {
		s := &list[i]
		s.At, s.E, s.Then, s.Else = roomyExpr(s.At), roomyExpr(s.E), roomyStmts(s.Then), roomyStmts(s.Else)
	}
	return list
}

func roomyExpr(e api.Expr) api.Expr {
	e.Kids = withRoom(e.Kids, api.Expr{Kind: 88})
	for i := range e.Kids {
		e.Kids[i] = roomyExpr(e.Kids[i])
	}
	return e
}

func toldStmts(list []api.Stmt) string {
	text := fmt.Sprint(open(list))
	for _, s := range list {
		text += toldExpr(s.At) + toldExpr(s.E) + toldStmts(s.Then) + toldStmts(s.Else)
	}
	return text
}

func toldExpr(e api.Expr) string {
	text := fmt.Sprint(open(e.Kids))
	for _, kid := range e.Kids {
		text += toldExpr(kid)
	}
	return text
}

// memoryPrograms: right ones, and such that are not.
func memoryPrograms(t testing.TB) []api.Program {
	return []api.Program{parsed(t, memoryText), parsed(t, "begin end"), parsed(t, "width 5; begin end"), parsed(t, "out x; begin x = y; end"), {}}
}

// memoryFlats: code that may be, and such that may not.
func memoryFlats(t testing.TB) []api.Flat {
	f := made(t, parsed(t, memoryText))
	wrong := f
	wrong.Temps = 1
	return []api.Flat{f, made(t, parsed(t, "begin end")), base(4, nested(5, list(ins(api.EDiv)), true)...), wrong, {}}
}

// TestHandedIn: no call changes what it is handed, or its spare room, nor do the answers hang on that (rule 4).
func TestHandedIn(t *testing.T) {
	for _, bare := range memoryFlats(t) {
		want, bad := Code(bare)
		f := bare
		f.Decls, f.Code = roomyDecls(bare.Decls), roomyCode(bare.Code)
		before := toldDecls(f.Decls) + toldCode(f.Code)
		n, e := Code(f)
		is(t, "with spare room", []any{n, e}, []any{want, bad})
		is(t, "the code", toldDecls(f.Decls)+toldCode(f.Code), before)
	}
	for _, bare := range memoryPrograms(t) {
		want, bad := Of(bare)
		p := bare
		p.Decls, p.Body = roomyDecls(bare.Decls), roomyStmts(bare.Body)
		before := toldDecls(p.Decls) + toldStmts(p.Body)
		n, e := Of(p)
		is(t, "with spare room", []any{n, e}, []any{want, bad})
		is(t, "the program", toldDecls(p.Decls)+toldStmts(p.Body), before)
	}
}

// TestNotKept: what was answered stays, whatever becomes of what was handed in; the answers hang on the arguments alone (rules 4 and 5).
func TestNotKept(t *testing.T) {
	f := memoryFlats(t)[0]
	n := codeNeed(t, f)
	want := plainNeed(f)
	clear(f.Code)
	clear(f.Decls)
	needIs(t, "what was answered", n, want)
	if n, e := Code(f); n != (api.Need{}) || e != api.ErrArg {
		t.Fatal("what was cleared: ", n, e)
	}
	needIs(t, "made again", codeNeed(t, memoryFlats(t)[0]), want)
	p := memoryPrograms(t)[0]
	m, _ := Of(p)
	clear(p.Body)
	clear(p.Decls)
	needIs(t, "of a program", m, want)
	needIs(t, "of a program, read again", textNeed(t, memoryText), want)
	for _, one := range memoryFlats(t) {
		first, bad := Code(one)
		for _, two := range memoryFlats(t) {
			Code(two)
			Enough(first, api.Budget{})
			Roomy(first)
			again, e := Code(one)
			is(t, "asked between", []any{again, e}, []any{first, bad})
		}
	}
}

// TestChanged: the same lists with something else in them have another need (rule 5).
func TestChanged(t *testing.T) {
	f := base(4, ins(api.EAdd), ins(api.EDiv))
	needIs(t, "first", codeNeed(t, f), told("1 4 1 4960 4095 4960"))
	f.Code[0].Op = api.EMul
	needIs(t, "with another operation", codeNeed(t, f), told("1 4 1 6176 4095 6176"))
	f.Decls[0].Kind = api.DPublic
	needIs(t, "with another kind", codeNeed(t, f), told("1 4 1 6176 255 6176"))
	f.Code[0] = ins(api.EAdd)
	f.Width = 8
	needIs(t, "with another width", codeNeed(t, f), told("1 4 1 15776 65535 15776"))
}

// TestShared: parts that are the same lists stand for themselves all the same (rule 4).
func TestShared(t *testing.T) {
	part := list(ins(api.EDiv), branch(list(ins(api.EMul)), nil))
	f := base(8, branch(part, part), branch(part, nil), ins(api.FRelease), branch(part, part))
	g := f
	g.Code = swapped(swapped(f.Code)) // the same, and nothing is shared
	needIs(t, "shared", codeNeed(t, f), codeNeed(t, g))
	needIs(t, "shared", codeNeed(t, f), plainNeed(f))
}

// TestAtOnce: calls at the same time on the same things have the same answers (rule 5).
func TestAtOnce(t *testing.T) {
	f, p := memoryFlats(t)[0], memoryPrograms(t)[0]
	want := codeNeed(t, f)
	got := make([]string, 8)
	var all sync.WaitGroup
	for i := range got {
		all.Go(func() {
			for range 20 {
				a, e := Code(f)
				b, bad := Of(p)
				got[i] = fmt.Sprint(a, e, b, bad, Enough(a, api.Budget{Paths: -1, Terms: -1, Clauses: -1, Decisions: 5}), Roomy(b))
			}
		})
	}
	all.Wait()
	for _, s := range got {
		is(t, "at once", s, fmt.Sprint(want, api.OK, want, api.OK, false, true))
	}
}
