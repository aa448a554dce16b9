package pair

import (
	"fmt"
	"sync"
	"testing"

	"cadence/api"
)

const memoryText = `width 8; line 2; public n; secret b[4]; const t[4] = 1, 2, 3, 4; out y[2]; var c[8]; out d; secret k;
begin
  d = n + b[1] * t[n] - sel(n, ~b[2], sar(d, 1));
  if n < d { d = 1; release d; c[n - 1] = n + b[0] + d; } else { release k; for i 0 2 { c[i] = d + i; d = t[i]; y[i] = d / k; } }
  if k { b[k] = n; }
end`

// withRoom: the same list, with spare room that holds something.
func withRoom[T any](list []T, junk T) []T {
	out := make([]T, len(list), len(list)+3)
	copy(out, list)
	for i := len(out); i < cap(out); i++ {
		out[:cap(out)][i] = junk
	}
	return out
}

// open: a list with its spare room as part of it.
func open[T any](list []T) []T { return list[:cap(list)] }

func roomyCode(list []api.Ins) []api.Ins {
	list = withRoom(list, api.Ins{Op: api.FRelease})
	for i := range list {
		list[i].Then, list[i].Else = roomyCode(list[i].Then), roomyCode(list[i].Else)
	}
	return list
}

// roomy: flat code whose lists all have spare room that holds something; it shares nothing with what was handed in.
func roomy(f api.Flat) api.Flat {
	f.Decls = withRoom(f.Decls, api.Decl{Kind: api.DSecret, Name: "z", Size: 8})
	for i := range f.Decls {
		f.Decls[i].Values = withRoom(f.Decls[i].Values, 77)
	}
	f.Code = roomyCode(f.Code)
	return f
}

func toldCode(list []api.Ins) string {
	text := fmt.Sprint(open(list))
	for _, x := range list {
		text += toldCode(x.Then) + toldCode(x.Else)
	}
	return text
}

// whole: all of flat code, with spare room.
func whole(f api.Flat) string {
	text := fmt.Sprint(f.Width, f.Line, f.Temps, open(f.Decls)) + toldCode(f.Code)
	for _, d := range f.Decls {
		text += fmt.Sprint(open(d.Values))
	}
	return text
}

func spoilCode(list []api.Ins) {
	for _, x := range list {
		spoilCode(x.Then)
		spoilCode(x.Else)
	}
	clear(open(list))
}

// spoilFlat: writes into all lists of flat code, and into their spare room.
func spoilFlat(f api.Flat) {
	spoilCode(f.Code)
	for _, d := range f.Decls {
		clear(open(d.Values))
	}
	clear(open(f.Decls))
}

// told: all that is told on all ways of code, with all looks at each stop; between is called there.
func told(g *going, between func(*going)) string {
	g.t.Helper()
	ask := g.w.Next(-1)
	text := fmt.Sprintln(ask, g.w.Assumed(), g.w.Events(), g.all())
	between(g)
	switch ask.Kind {
	case Differ:
		g.agree()
		text += told(g, between)
	case Branch:
		then, otherwise := g.fork()
		text += told(then, between) + told(otherwise, between)
	}
	return text
}

func nothing(*going) {}

// TestHandedIn: what is handed in is not changed, spare room neither (rule 4).
func TestHandedIn(t *testing.T) {
	f := roomy(program(t, memoryText))
	before := whole(f)
	told(start(t, f), nothing)
	is(t, "the code", whole(f), before)
	wrong := roomy(program(t, memoryText))
	wrong.Temps = 1
	before = whole(wrong)
	_, e := Start(wrong)
	is(t, "Start", e, api.ErrArg)
	is(t, "what was refused", whole(wrong), before)
}

// TestNotKept: a way goes on as it would, whatever becomes of the code that was handed in (rule 4).
func TestNotKept(t *testing.T) {
	want := told(start(t, program(t, memoryText)), nothing)
	f := roomy(program(t, memoryText))
	g := start(t, f)
	g.f = program(t, memoryText)
	spoilFlat(f)
	is(t, "what is told", told(g, nothing), want)
}

// TestHandedOut: what is handed out is new memory, spare room too: what is written into it, no other sees, and no way (rule 4).
func TestHandedOut(t *testing.T) {
	f := program(t, memoryText)
	want := told(start(t, f), nothing)
	is(t, "what is told", told(start(t, f), func(g *going) {
		for range 2 {
			clear(open(g.w.Assumed()))
			_ = append(g.w.Assumed(), 7, 8, 9)
			for c := 1; c <= 2; c++ {
				for i, d := range f.Decls {
					if d.Size > 0 {
						clear(open(g.cells(c, i)))
						_ = append(g.cells(c, i), 7, 8, 9)
					}
				}
			}
		}
	}), want)
	// Nor do lists that were told see what is told later, or done.
	g := start(t, code(t, "width 8; line 2; secret k; out x; var a[2];", 2, release(temp(0)), store(2, number(0), temp(0)), release(temp(1)), store(2, number(1), number(9)), ins(api.FCopy, 1, temp(0)), release(number(3))))
	g.is(2, Room, "", 2)
	assumed, cells := g.w.Assumed(), g.cells(1, 2)
	before := g.shows(assumed) + "; " + g.shows(cells)
	g.is(-1, End, "", 4+2+4+2+2)
	is(t, "what was told", g.shows(assumed)+"; "+g.shows(cells), before)
	is(t, "that", before, "(eq x0 y0); 0, 0")
}

// TestAgain: the same calls have the same answers, also where others are refused between them (rules 2 and 5).
func TestAgain(t *testing.T) {
	f := program(t, memoryText)
	want := told(start(t, f), nothing)
	for range 3 {
		is(t, "what is told", told(start(t, f), func(g *going) {
			g.w.Next(0)
			ask := g.w.Next(-1)
			if ask.Kind != Differ {
				is(t, "Agree", g.w.Agree(), api.ErrArg)
			}
			if ask.Kind != Branch {
				_, _, e := g.w.Fork()
				is(t, "Fork", e, api.ErrArg)
			}
			g.w.Word(3, 0)
			g.w.Word(1, -1)
			g.w.Cells(0, 1)
			g.w.Cells(2, 0)
			Start(api.Flat{})
		}), want)
	}
}

// TestAtOnce: ways of several Starts of the same code at the same time (rule 5).
func TestAtOnce(t *testing.T) {
	f := program(t, memoryText)
	want := told(start(t, f), nothing)
	got := make([]string, 8)
	var all sync.WaitGroup
	for i := range got {
		all.Go(func() {
			for range 10 {
				got[i] = told(start(t, f), nothing)
			}
		})
	}
	all.Wait()
	for _, s := range got {
		is(t, "at once", s, want)
	}
}
