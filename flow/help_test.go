package flow

import (
	"fmt"
	"math"
	"slices"
	"strings"
	"testing"

	"cadence/api"
	"cadence/lang"
	"cadence/wf"
)

// picker tells numbers that look like chance, the same ones in each run.
type picker uint64

func (p *picker) next() uint64 {
	*p ^= *p << 13
	*p ^= *p >> 7
	*p ^= *p << 17
	return uint64(*p)
}

func (p *picker) below(n int) int { return int(p.next() >> 11 % uint64(n)) }

func pickOf[T any](p *picker, list ...T) T { return list[p.below(len(list))] }

// is: what was answered is what the chapter says.
func is(t testing.TB, what string, got, want any) {
	t.Helper()
	if fmt.Sprint(got) != fmt.Sprint(want) {
		t.Fatalf("%s: %v, not %v", what, got, want)
	}
}

// shown: a program's text, cut where it is too long to be told.
func shown(p api.Program) string {
	s, e := lang.Print(p)
	if e != api.OK {
		s = fmt.Sprintf("%+v", p)
	}
	if len(s) > 1500 {
		return s[:1000] + " .. " + s[len(s)-500:]
	}
	return s
}

// parsed: the program of a text, without the words that all texts begin with.
func parsed(t testing.TB, text string) api.Program {
	t.Helper()
	p, line, e := lang.Parse("program p; " + text)
	if e != api.OK {
		t.Fatalf("%s: %d in line %d", text, e, line)
	}
	return p
}

// nowhere: places that no program has, but for those behind its last.
func nowhere() []int { return []int{-1, -2, math.MinInt, math.MaxInt, 1 << 32} }

// rising: each number is above the one ahead of it.
func rising(list []int) bool { return slices.IsSorted(list) && !hasTwice(list) }

func hasTwice(list []int) bool { return len(slices.Compact(slices.Clone(list))) != len(list) }

// highOf: what High answers of a right program, if it is rising and Check agrees with it (F18.1).
func highOf(t testing.TB, p api.Program) []int {
	t.Helper()
	high, e := High(p)
	if e != api.OK || !rising(high) {
		t.Fatalf("%v, %d, of\n%s", high, e, shown(p))
	}
	place, e := Check(p)
	wantPlace, want := 0, api.OK
	if len(high) > 0 {
		wantPlace, want = slices.Min(high), api.ErrHigh
	}
	if place != wantPlace || e != want {
		t.Fatalf("Check says %d, %d, and High %v, of\n%s", place, e, high, shown(p))
	}
	return high
}

// isTyped: has a right program no high expression?
func isTyped(t testing.TB, p api.Program) bool { return len(highOf(t, p)) == 0 }

// sourcesAt: what Sources answers, if it is rising, and declarations that are secret (F18.2).
func sourcesAt(t testing.TB, p api.Program, place int) []int {
	t.Helper()
	list, e := Sources(p, place)
	if e != api.OK {
		t.Fatalf("no sources at %d: %d, of\n%s", place, e, shown(p))
	}
	areSources(t, p, list)
	return list
}

// noSources: no expression stands at a place.
func noSources(t testing.TB, p api.Program, place int) {
	t.Helper()
	if list, e := Sources(p, place); len(list) != 0 || e != api.ErrArg {
		t.Fatalf("sources at %d: %v, %d, of\n%s", place, list, e, shown(p))
	}
}

// endsOf: what Ends answers, if it is a rising list of secrets for each declaration (F18.2).
func endsOf(t testing.TB, p api.Program) [][]int {
	t.Helper()
	ends, e := Ends(p)
	if e != api.OK || len(ends) != len(p.Decls) {
		t.Fatalf("%v, %d, of\n%s", ends, e, shown(p))
	}
	for _, list := range ends {
		areSources(t, p, list)
	}
	return ends
}

func areSources(t testing.TB, p api.Program, list []int) {
	t.Helper()
	if !rising(list) {
		t.Fatalf("not rising: %v, of\n%s", list, shown(p))
	}
	for _, number := range list {
		if number < 0 || number >= len(p.Decls) || p.Decls[number].Kind != api.DSecret {
			t.Fatalf("no secret: %d, of\n%s", number, shown(p))
		}
	}
}

// told: sources by their names, as "k l"; "-", if there are none.
func told(p api.Program, list []int) string {
	if len(list) == 0 {
		return "-"
	}
	var names []string
	for _, number := range list {
		names = append(names, p.Decls[number].Name)
	}
	return strings.Join(names, " ")
}

// endsTold: what each declaration hangs on at the end, as "k: k, x: k l, a: -".
func endsTold(t testing.TB, p api.Program) string {
	t.Helper()
	var parts []string
	for i, list := range endsOf(t, p) {
		parts = append(parts, p.Decls[i].Name+": "+told(p, list))
	}
	return strings.Join(parts, ", ")
}

// endIs: what one declaration of a text's program hangs on at the end.
func endIs(t testing.TB, text, name, want string) {
	t.Helper()
	p := parsed(t, text)
	for i, list := range endsOf(t, p) {
		if p.Decls[i].Name == name {
			is(t, text+": "+name, told(p, list), want)
			return
		}
	}
	t.Fatalf("no %s in %s", name, text)
}

// highTold: the high expressions of a program, as they are written, in the order of their places.
func highTold(t testing.TB, p api.Program) string {
	t.Helper()
	exprs := exprsOf(p)
	parts := []string{}
	for _, place := range highOf(t, p) {
		e, is := exprs[place]
		if !is {
			t.Fatalf("no expression stands at %d, of\n%s", place, shown(p))
		}
		text, _ := lang.Expr(e)
		parts = append(parts, text)
	}
	return strings.Join(parts, "; ")
}

// highIs: the high expressions of a text's program.
func highIs(t testing.TB, text, want string) {
	t.Helper()
	is(t, text, highTold(t, parsed(t, text)), want)
}

// exprsOf: the expressions of a program by their places.
func exprsOf(p api.Program) map[int]api.Expr {
	out := map[int]api.Expr{}
	place := len(p.Decls)
	var expr func(e api.Expr)
	expr = func(e api.Expr) {
		if e.Kind == 0 {
			return
		}
		out[place] = e
		place++
		for _, kid := range e.Kids {
			expr(kid)
		}
	}
	var stmts func(list []api.Stmt)
	stmts = func(list []api.Stmt) {
		for _, s := range list {
			place++
			expr(s.At)
			expr(s.E)
			stmts(s.Then)
			stmts(s.Else)
		}
	}
	stmts(p.Body)
	return out
}

// placeOf: the place of the one expression of a program that is written so.
func placeOf(t testing.TB, p api.Program, written string) int {
	t.Helper()
	at := -1
	for place, e := range exprsOf(p) {
		if text, _ := lang.Expr(e); text == written {
			if at >= 0 {
				t.Fatalf("%s stands there twice, in %s", written, shown(p))
			}
			at = place
		}
	}
	if at < 0 {
		t.Fatalf("no %s in %s", written, shown(p))
	}
	return at
}

// sourcesAre: those of the one expression that is written so.
func sourcesAre(t testing.TB, text, written, want string) {
	t.Helper()
	p := parsed(t, text)
	is(t, text+": "+written, told(p, sourcesAt(t, p, placeOf(t, p, written))), want)
}

// thingsOf: how many places a program has.
func thingsOf(t testing.TB, p api.Program) int {
	t.Helper()
	n, e := wf.Things(p)
	if e != api.OK {
		t.Fatalf("no things: %d, of %s", e, shown(p))
	}
	return n
}

// somePlaces: all places of a small program, of a great one every so many.
func somePlaces(t testing.TB, k *picker, p api.Program) []int {
	t.Helper()
	n := thingsOf(t, p)
	step := 1 + n/40
	var list []int
	for place := k.below(step); place < n; place += step {
		list = append(list, place)
	}
	return list
}

// Copies with nothing shared.

func copyExpr(e api.Expr) api.Expr {
	e.Kids = slices.Clone(e.Kids)
	for i := range e.Kids {
		e.Kids[i] = copyExpr(e.Kids[i])
	}
	return e
}

func copyStmts(list []api.Stmt) []api.Stmt {
	list = slices.Clone(list)
	for i := range list {
		s := &list[i]
		s.At, s.E, s.Then, s.Else = copyExpr(s.At), copyExpr(s.E), copyStmts(s.Then), copyStmts(s.Else)
	}
	return list
}

func copyProgram(p api.Program) api.Program {
	p.Decls = slices.Clone(p.Decls)
	for i := range p.Decls {
		p.Decls[i].Values = slices.Clone(p.Decls[i].Values)
	}
	p.Body = copyStmts(p.Body)
	return p
}
