package symex

import (
	"fmt"
	"slices"
	"sync"
	"testing"

	"cadence/api"
	"cadence/simp"
)

const memoryText = `width 8; line 2; public n; secret b[4]; const t[4] = 1, 2, 3, 4; out y[2]; var c[8]; out d; secret k;
begin
  d = n + b[1] * t[n] - sel(n, ~b[2], sar(d, 1));
  if n < d { d = 1; release d; c[n - 1] = n + b[0] + d; } else { release d; for i 0 2 { c[i] = d + i; d = t[i]; y[i] = d / k; } }
  if k { b[k] = n; }
end`

// withRoom: the same list, with spare room that holds something.
func withRoom[T any](list []T, junk T) []T {
	out := make([]T, len(list), len(list)+3)
	copy(out, list)
	for i := len(out); i < cap(out); i++ {
		out[:cap(out)][i] = junk
	}
	return out
}

// open: a list with its spare room as part of it.
func open[T any](list []T) []T { return list[:cap(list)] }

func roomyCode(list []api.Ins) []api.Ins {
	list = withRoom(list, api.Ins{Op: api.FRelease})
	for i := range list {
		list[i].Then, list[i].Else = roomyCode(list[i].Then), roomyCode(list[i].Else)
	}
	return list
}

// roomy: flat code whose lists all have spare room that holds something; it shares nothing with what was handed in.
func roomy(f api.Flat) api.Flat {
	f.Decls = withRoom(f.Decls, api.Decl{Kind: api.DSecret, Name: "z", Size: 8})
	for i := range f.Decls {
		f.Decls[i].Values = withRoom(f.Decls[i].Values, 77)
	}
	f.Code = roomyCode(f.Code)
	return f
}

func toldCode(list []api.Ins) string {
	text := fmt.Sprint(open(list))
	for _, x := range list {
		text += toldCode(x.Then) + toldCode(x.Else)
	}
	return text
}

// whole: all of flat code, with spare room.
func whole(f api.Flat) string {
	text := fmt.Sprint(f.Width, f.Line, f.Temps, open(f.Decls)) + toldCode(f.Code)
	for _, d := range f.Decls {
		text += fmt.Sprint(open(d.Values))
	}
	return text
}

func spoilCode(list []api.Ins) {
	for _, x := range list {
		spoilCode(x.Then)
		spoilCode(x.Else)
	}
	clear(open(list))
}

// spoilFlat: writes into all lists of flat code, and into their spare room.
func spoilFlat(f api.Flat) {
	spoilCode(f.Code)
	for _, d := range f.Decls {
		clear(open(d.Values))
	}
	clear(open(f.Decls))
}

// calls: what all calls answer of some code, with a new maker.
func calls(t testing.TB, f api.Flat, tails []string, vals []api.Value) (string, *begun) {
	t.Helper()
	m := simp.New()
	n, e := Length(f)
	in, e2 := Inputs(f, m, tails)
	s, e3 := Begin(f, m, in)
	text := fmt.Sprint(n, e, in, e2, e3)
	in = withRoom(in, -5)
	before := fmt.Sprint(open(in))
	l, more, e := Paths(f, m, in, 3)
	p, e2 := Follow(f, m, in, vals)
	r, e3 := Feasible(m, p, -1, 100)
	text += fmt.Sprint(l, more, e, p, e2, r, e3, s.Words(), m.Store().Len())
	is(t, "the words that were handed in", open(in), before)
	return text, &begun{t, f, m, in, s}
}

// TestHandedIn: no call changes what it is handed, or its spare room, nor do the answers hang on that (rule 4).
func TestHandedIn(t *testing.T) {
	bare := program(t, memoryText)
	vals := []api.Value{{Name: "i0_z", W: 8, Num: 3}, {Name: "i5_z", W: 8, Num: 9}}
	tails := slices.Repeat([]string{"_z"}, 6)
	want, _ := calls(t, bare, tails, vals)
	f, roomyTails, roomyVals := roomy(bare), withRoom(tails, "-"), withRoom(vals, api.Value{Name: "i0", W: 99})
	before := whole(f) + fmt.Sprint(open(roomyTails), open(roomyVals))
	got, b := calls(t, f, roomyTails, roomyVals)
	is(t, "with spare room", got, want)
	for _, x := range f.Code {
		b.s.Do(x)
	}
	is(t, "what was handed in", whole(f)+fmt.Sprint(open(roomyTails), open(roomyVals)), before)
	p := Path{Conds: withRoom(b.follow(vals).Conds, -1)}
	before = fmt.Sprint(open(p.Conds))
	Feasible(b.m, p, -1, -1)
	is(t, "a way that was handed in", open(p.Conds), before)
	// What is refused is not changed, either.
	wrong := roomy(bare)
	wrong.Temps = 1
	before = whole(wrong)
	calls(t, wrong, nil, nil)
	is(t, "what was refused", whole(wrong), before)
}

// TestNotKept: a state, and ways, stay as they are, whatever becomes of what was handed in (rule 4).
func TestNotKept(t *testing.T) {
	bare := program(t, memoryText)
	untouched := begin(t, bare)
	f := roomy(bare)
	m := simp.New()
	tails := make([]string, 6)
	in, e := Inputs(f, m, tails)
	is(t, "Inputs", e, api.OK)
	first := withRoom(in, 7)
	b := beginWith(t, f, m, first)
	l, _ := b.paths(9)
	p := b.follow(b.told(1, 2, 3))
	ways, way := fmt.Sprint(l), fmt.Sprint(p)
	spoilFlat(f)
	clear(tails)
	clear(open(first))
	is(t, "ways", []any{l, p}, "["+ways+" "+way+"]")
	b.f = bare
	is(t, "the state", b.showWords(b.s.Words()), untouched.showWords(untouched.s.Words()))
	for _, x := range bare.Code {
		if x.Op == api.FIf {
			continue
		}
		y := list(x)
		e1, seen1, bad1 := b.s.Do(y[0])
		clear(y)
		e2, seen2, bad2 := untouched.s.Do(x)
		is(t, "done by both", []any{b.showEvent(e1), seen1, bad1}, []any{untouched.showEvent(e2), seen2, bad2})
		is(t, "the words of both", b.showWords(b.s.Words()), untouched.showWords(untouched.s.Words()))
	}
	_, _, e = b.s.Do(load(0, 2, temp(0)))
	is(t, "a load of the table", e, api.OK)
	is(t, "the table's words", b.show(b.word(temp(0))), "(ite (eq (slice i0 1 1) 1:1) (ite (eq (slice i0 0 1) 1:1) 4 3) (ite (eq (slice i0 0 1) 1:1) 2 1))")
}

// lists: all lists of numbers that ways have, but those of events.
func lists(ways []Path) []*[]int {
	var all []*[]int
	for i := range ways {
		all = append(all, &ways[i].Conds)
		for j := range ways[i].State {
			all = append(all, &ways[i].State[j])
		}
	}
	return all
}

// TestHandedOut: each list of what is handed out is new memory, spare room too: what is written into one, or behind it, no other sees (rule 4).
func TestHandedOut(t *testing.T) {
	b := begin(t, program(t, memoryText))
	ways := func() []Path {
		l, _ := b.paths(9)
		return append(l, b.follow(b.told(1, 2, 3)), b.follow(b.told(9)), Path{State: b.s.Words()})
	}
	want := ways()
	for i := range lists(want) {
		got := ways()
		l := lists(got)[i]
		saved := slices.Clone(*l)
		for n := range open(*l) {
			open(*l)[n] = -99
		}
		*l = saved
		is(t, fmt.Sprint("a list was written into: ", i), got, want)
	}
	for i := range want {
		got := ways()
		events, state := slices.Clone(got[i].Events), slices.Clone(got[i].State)
		clear(open(got[i].Events))
		clear(open(got[i].State))
		got[i].Events, got[i].State = events, state
		is(t, fmt.Sprint("events and words were written into: ", i), got, want)
	}
	in := variables(t, b.f, b.m)
	clear(open(in))
	is(t, "Inputs again", variables(t, b.f, b.m), b.in)
	words := b.showWords(b.s.Words())
	for _, l := range b.s.Words() {
		clear(open(l))
	}
	is(t, "Words again", b.showWords(b.s.Words()), words)
	is(t, "Words of a clone", b.showWords(b.s.Clone().Words()), words)
}

// TestGrown: likewise of lists that are made longer (rule 4).
func TestGrown(t *testing.T) {
	b := begin(t, program(t, memoryText))
	l, _ := b.paths(9)
	want := fmt.Sprint(l)
	for i := range l {
		_ = append(l[i].Conds, 1, 2, 3)
		_ = append(l[i].Events, Event{Kind: 9}, Event{Kind: 9})
		_ = append(l[i].State, nil, nil)
		for j := range l[i].State {
			_ = append(l[i].State[j], 1, 2, 3, 4, 5, 6, 7, 8, 9)
		}
	}
	is(t, "behind append", l, want)
}

// TestAgain: the same calls have the same answers, also when others are refused between them (rules 2 and 5).
func TestAgain(t *testing.T) {
	f := program(t, memoryText)
	tails := make([]string, 6)
	want, b := calls(t, f, tails, nil)
	again, _ := calls(t, f, tails, nil)
	is(t, "with another maker", again, want)
	l, _ := b.paths(2)
	terms := b.m.Store().Len()
	for range 3 {
		Paths(f, b.m, b.in, 0)
		Paths(f, b.m, b.in[:2], 2)
		Follow(f, b.m, b.in, []api.Value{{Name: "i0", W: 1}})
		Begin(f, b.m, []int{0, 0, 0, 0, 0, 0})
		Inputs(f, b.m, slices.Repeat([]string{"-"}, 6))
		b.s.Do(branch(temp(0), nil, nil))
		b.s.Word(temp(-7))
		b.s.Truth(number(256))
		second, _ := b.paths(2)
		is(t, "with the same maker", second, l)
	}
	is(t, "the terms", b.m.Store().Len(), terms)
}

// TestAtOnce: calls at the same time on the same code, each with a maker of its own (rule 5).
func TestAtOnce(t *testing.T) {
	f := program(t, memoryText)
	tails := make([]string, 6)
	want, _ := calls(t, f, tails, nil)
	got := make([]string, 8)
	var all sync.WaitGroup
	for i := range got {
		all.Go(func() {
			for range 10 {
				got[i], _ = calls(t, f, tails, nil)
			}
		})
	}
	all.Wait()
	for _, s := range got {
		is(t, "at once", s, want)
	}
}
