package flat

import (
	"fmt"
	"reflect"
	"slices"
	"sync"
	"testing"

	"cadence/api"
)

const memoryText = `width 8; line 2; public n; secret b[4]; const t[2] = 1, 2; out y[2]; const u[1] = 4; var c[8]; out d; secret k;
begin
  d = n + b[1] * t[n] - sel(n, ~b[2], sar(d, 1)) == slt(n, -d);
  if n < d { d = 1; release d; c[n - 1] = n + b[0] + d; } else { release d; for i 0 4 { c[i] = d + i; d = t[i]; y[i] = d / 3 + u[0]; } }
  for j 1 2 { if j { b[j] = k; d = d + j; } else { d = 5; k = 7; } for i 0 3 { } }
  k = 3; if k { n = 9; } d = d + 2 * n;
end`

func memoryInputs() []uint64 { return inputs(3, 10, 20, 30, 40, 50) }

// memoryFlats: code that may be, and such that may not.
func memoryFlats(t testing.TB) []api.Flat {
	f := madeText(t, memoryText)
	broken := plainFlat(f)
	broken.Code[2].Dst = -1
	return []api.Flat{f, madeText(t, "out x; const T[2] = 5, 6; begin for i 0 2 { x = T[i]; } end"), madeText(t, "begin end"), broken, {}}
}

// withRoom: the same list, with spare room that holds something.
func withRoom[T any](list []T, junk T) []T {
	out := make([]T, len(list), len(list)+3)
	copy(out, list)
	for i := len(out); i < cap(out); i++ {
		out[:cap(out)][i] = junk
	}
	return out
}

// open: a list with its spare room as part of it.
func open[T any](list []T) []T { return slices.Clone(list[:cap(list)]) }

// eachList goes over all lists of flat code, from the outside in, and puts others in their place.
type eachList struct {
	decls  func([]api.Decl) []api.Decl
	values func([]uint64) []uint64
	code   func([]api.Ins) []api.Ins
}

func (l eachList) list(list []api.Ins) []api.Ins {
	list = l.code(list)
	for i := range list {
		list[i].Then, list[i].Else = l.list(list[i].Then), l.list(list[i].Else)
	}
	return list
}

func (l eachList) flat(f api.Flat) api.Flat {
	f.Decls = l.decls(f.Decls)
	for i := range f.Decls {
		f.Decls[i].Values = l.values(f.Decls[i].Values)
	}
	f.Code = l.list(f.Code)
	return f
}

// roomy: flat code whose lists all have spare room that holds something.
func roomy(f api.Flat) api.Flat {
	return eachList{
		func(list []api.Decl) []api.Decl { return withRoom(list, api.Decl{Kind: api.DOut, Name: "z"}) },
		func(list []uint64) []uint64 { return withRoom(list, 77) },
		func(list []api.Ins) []api.Ins {
			return withRoom(list, api.Ins{Op: api.FRelease, A: number(1)})
		},
	}.flat(f)
}

// opened: flat code with its spare room as part of it, so that it can be compared whole.
func opened(f api.Flat) api.Flat {
	return eachList{open[api.Decl], open[uint64], open[api.Ins]}.flat(f)
}

// answers: all that the calls answer of flat code and inputs.
func answers(f api.Flat, in []uint64) string {
	may := May(f)
	n, e1 := Size(f)
	a, e2 := Run(f, in)
	g, e3 := Drop(f)
	h, e4 := Fold(f)
	s, e5 := Text(f)
	return fmt.Sprint(may, n, e1, a, e2, plainFlat(g), e3, plainFlat(h), e4, s, e5)
}

// TestHandedIn: no call changes what it is handed, or its spare room, nor do the answers hang on that (rule 4).
func TestHandedIn(t *testing.T) {
	for _, bare := range memoryFlats(t) {
		for _, in := range [][]uint64{memoryInputs(), nil} {
			want := answers(bare, in)
			f, x := roomy(bare), withRoom(in, 66)
			before, openX := opened(f), open(x)
			is(t, "with spare room", answers(f, x), want)
			if !reflect.DeepEqual(opened(f), before) {
				t.Fatal("the code, or its spare room, was changed")
			}
			is(t, "the inputs", open(x), openX)
		}
	}
}

// roomyProgram: a program whose lists all have spare room that holds something.
func roomyProgram(p api.Program) api.Program {
	p.Decls = withRoom(p.Decls, api.Decl{Kind: 9})
	for i := range p.Decls {
		p.Decls[i].Values = withRoom(p.Decls[i].Values, 77)
	}
	p.Body = roomyStmts(p.Body)
	return p
}

func roomyStmts(list []api.Stmt) []api.Stmt {
	list = withRoom(list, api.Stmt{Kind: 99})
	for i := range list {
		s := &list[i]
		s.At, s.E, s.Then, s.Else = roomyExpr(s.At), roomyExpr(s.E), roomyStmts(s.Then), roomyStmts(s.Else)
	}
	return list
}

func roomyExpr(e api.Expr) api.Expr {
	e.Kids = withRoom(e.Kids, api.Expr{Kind: 88})
	for i := range e.Kids {
		e.Kids[i] = roomyExpr(e.Kids[i])
	}
	return e
}

// toldProgram: a program with all its spare room, as a text.
func toldProgram(p api.Program) string {
	text := fmt.Sprint(p.Name, p.Width, p.Line, open(p.Decls))
	for _, d := range p.Decls {
		text += fmt.Sprint(open(d.Values))
	}
	return text + toldStmts(p.Body)
}

func toldStmts(list []api.Stmt) string {
	text := fmt.Sprint(open(list))
	for _, s := range list {
		text += toldExpr(s.At) + toldExpr(s.E) + toldStmts(s.Then) + toldStmts(s.Else)
	}
	return text
}

func toldExpr(e api.Expr) string {
	text := fmt.Sprint(open(e.Kids))
	for _, kid := range e.Kids {
		text += toldExpr(kid)
	}
	return text
}

// TestMakeHandedIn: Make changes nothing of the program, or its spare room, and keeps nothing of it (rule 4).
func TestMakeHandedIn(t *testing.T) {
	for _, text := range []string{memoryText, "begin end", "width 5; begin end", "out x; begin x = y; end"} {
		bare := parsed(t, text)
		want, e := Make(bare)
		p := roomyProgram(bare)
		before := toldProgram(p)
		f, bad := Make(p)
		is(t, "with spare room", []any{plainFlat(f), bad}, []any{plainFlat(want), e})
		is(t, "the program", toldProgram(p), before)
		kept := fmt.Sprint(plainFlat(f))
		for i := range p.Decls {
			clear(p.Decls[i].Values)
			p.Decls[i] = api.Decl{Kind: api.DVar, Name: fmt.Sprint("other", i)}
		}
		clear(p.Body)
		is(t, "what was answered", fmt.Sprint(plainFlat(f)), kept)
	}
}

// spoil writes over a list and its spare room, and grows it.
func spoil[T any](list []T, junk T) {
	whole := list[:cap(list)]
	for i := range whole {
		whole[i] = junk
	}
	for range 5 {
		list = append(list, junk)
	}
}

// oneList: a list that can be spoilt, and told by what stands in itself, not in the lists within it.
type oneList struct {
	spoil func()
	tell  func() string
}

// allLists: each list of flat code.
func allLists(f api.Flat) []oneList {
	lists := []oneList{{func() { spoil(f.Decls, api.Decl{Kind: 77, Size: 3}) }, func() string {
		text := ""
		for _, d := range f.Decls {
			text += fmt.Sprint(d.Kind, d.Name, d.Size, ";")
		}
		return text
	}}}
	for _, d := range slices.Clone(f.Decls) {
		if d.Kind == api.DConst {
			lists = append(lists, oneList{func() { spoil(d.Values, 99) }, func() string { return fmt.Sprint(d.Values) }})
		}
	}
	var gather func(list []api.Ins)
	gather = func(list []api.Ins) {
		if cap(list) == 0 {
			return
		}
		lists = append(lists, oneList{func() { spoil(list, api.Ins{Op: 66}) }, func() string {
			text := ""
			for _, x := range list {
				text += fmt.Sprint(x.Op, x.Dst, x.A, x.B, x.C, x.Array, len(x.Then), len(x.Else), ";")
			}
			return text
		}})
		for _, x := range slices.Clone(list) {
			gather(x.Then)
			gather(x.Else)
		}
	}
	gather(f.Code)
	return lists
}

// apart: lists that share nothing: each one is spoilt, and no other is another one by that.
func apart(t testing.TB, what string, lists []oneList) {
	t.Helper()
	var told []string
	for _, l := range lists {
		told = append(told, l.tell())
	}
	for i, l := range lists {
		l.spoil()
		for j := i + 1; j < len(lists); j++ {
			if lists[j].tell() != told[j] {
				t.Fatalf("%s: the lists %d and %d share their room", what, i, j)
			}
		}
	}
}

// sharedFlat: code whose parts are the same lists.
func sharedFlat(t testing.TB) api.Flat {
	f := madeText(t, memoryText)
	at := slices.IndexFunc(f.Code, func(x api.Ins) bool { return x.Op == api.FIf })
	f.Code[at].Then = f.Code[at].Else
	f.Code = append(f.Code, f.Code[at], f.Code[at])
	return f
}

// TestHandedOut: what is handed out is the caller's: written over and grown, it changes nothing, neither of what was handed in nor of what else was handed out (rule 4).
func TestHandedOut(t *testing.T) {
	for _, f := range append(memoryFlats(t)[:3], sharedFlat(t)) {
		in := make([]uint64, lengthOf(f.Decls))
		want, before := answers(f, in), fmt.Sprint(plainFlat(f))
		for what, call := range map[string]func(api.Flat) (api.Flat, api.Errno){"Drop": Drop, "Fold": Fold} {
			g, _ := call(f)
			apart(t, what, allLists(g))
			is(t, what+": what was handed in", fmt.Sprint(plainFlat(f)), before)
		}
		a, _ := Run(f, in)
		for i, list := range a.State {
			spoil(list, 99)
			for j := i + 1; j < len(a.State); j++ {
				if slices.Contains(a.State[j], 99) {
					t.Fatalf("the lists %d and %d share their room", i, j)
				}
			}
		}
		spoil(a.Trace, api.Event{Kind: 77})
		spoil(a.State, inputs(1))
		is(t, "Run: what was handed in", fmt.Sprint(plainFlat(f)), before)
		is(t, "asked again", answers(f, in), want)
	}
	p := parsed(t, memoryText)
	before := toldProgram(p)
	f, _ := Make(p)
	kept := fmt.Sprint(plainFlat(f))
	g, _ := Make(p)
	apart(t, "Make", allLists(g))
	is(t, "Make: the program", toldProgram(p), before)
	is(t, "Make: what it made ahead of that", fmt.Sprint(plainFlat(f)), kept)
}

// TestNotKept: what was answered stays, whatever becomes of what was handed in; nothing is kept from call to call (rules 4 and 5).
func TestNotKept(t *testing.T) {
	f, in := madeText(t, memoryText), memoryInputs()
	g, h, a := dropped(t, f), folded(t, f), ranWith(t, f, in)
	before := fmt.Sprint(plainFlat(g), plainFlat(h), a)
	for _, l := range allLists(f) {
		l.spoil()
	}
	clear(in)
	is(t, "what was answered", fmt.Sprint(plainFlat(g), plainFlat(h), a), before)
	for _, one := range memoryFlats(t) {
		want := answers(one, memoryInputs())
		for _, two := range memoryFlats(t) {
			answers(two, memoryInputs())
			answers(two, nil)
			is(t, "asked between", answers(one, memoryInputs()), want)
		}
	}
}

// TestAtOnce: calls at the same time on the same code have the same answers (rule 5).
func TestAtOnce(t *testing.T) {
	f, in, p := madeText(t, memoryText), memoryInputs(), parsed(t, memoryText)
	want := answers(f, in)
	got := make([]string, 8)
	var all sync.WaitGroup
	for i := range got {
		all.Go(func() {
			for range 20 {
				g, _ := Make(p)
				got[i] = answers(g, in)
			}
		})
	}
	all.Wait()
	for _, s := range got {
		is(t, "at once", s, want)
	}
}

// TestSharedParts: code, and a program, whose parts are the same lists: they stand for themselves all the same (rule 4).
func TestSharedParts(t *testing.T) {
	f := sharedFlat(t)
	bare := plainFlat(f)
	in := memoryInputs()
	is(t, "as if nothing were shared", answers(f, in), answers(bare, in))
	same(t, "Drop", dropped(t, f), plainDrop(bare))
	same(t, "Fold", folded(t, f), plainFold(bare))
	p := parsed(t, "width 8; secret k; out x; var a[2]; begin if k { x = x + 1; a[x] = x; } end")
	p.Body[0].Else = p.Body[0].Then
	p.Body = append(p.Body, p.Body[0])
	g := madeOf(t, p)
	codeIs(t, "a program", g, "if t0 { t2 = add t1 1; t1 = copy t2; a[t1] = t1 } else { t3 = add t1 1; t1 = copy t3; a[t1] = t1 }; if t0 { t4 = add t1 1; t1 = copy t4; a[t1] = t1 } else { t5 = add t1 1; t1 = copy t5; a[t1] = t1 }")
	apart(t, "a program whose parts are one", allLists(g))
}
