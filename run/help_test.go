package run

import (
	"fmt"
	"math"
	"slices"
	"strings"
	"testing"

	"cadence/api"
	"cadence/lang"
	"cadence/wf"
)

// picker tells numbers that look like chance, the same ones in each run.
type picker uint64

func (p *picker) next() uint64 {
	*p ^= *p << 13
	*p ^= *p >> 7
	*p ^= *p << 17
	return uint64(*p)
}

func (p *picker) below(n int) int { return int(p.next() >> 11 % uint64(n)) }

func pickOf[T any](p *picker, list ...T) T { return list[p.below(len(list))] }

// is: what was answered is what the chapter says.
func is(t testing.TB, what string, got, want any) {
	t.Helper()
	if fmt.Sprint(got) != fmt.Sprint(want) {
		t.Fatalf("%s: %v, not %v", what, got, want)
	}
}

// shown: a program's text, cut where it is too long to be told.
func shown(p api.Program) string {
	s, e := lang.Print(p)
	if e != api.OK {
		s = fmt.Sprintf("%+v", p)
	}
	if len(s) > 1500 {
		return s[:1000] + " .. " + s[len(s)-500:]
	}
	return s
}

// parsed: the program of a text, without the words that all texts begin with.
func parsed(t testing.TB, text string) api.Program {
	t.Helper()
	p, line, e := lang.Parse("program p; " + text)
	if e != api.OK {
		t.Fatalf("%s: %d in line %d", text, e, line)
	}
	return p
}

// words: a list of them, for what is handed in.
func words(list ...uint64) []uint64 { return list }

// widths: those that a program may have.
func widths() []int { return []int{4, 8, 16, 32, 64} }

// top: the greatest word of a width.
func top(width int) uint64 { return math.MaxUint64 >> (64 - width) }

// edges: words of a width at which something turns.
func edges(width int) []uint64 {
	w, most := uint64(width), top(width)
	half := most>>1 + 1
	list := []uint64{0, 1, 2, 3, w - 1, w, w + 1, 2*w - 1, 2 * w, half - 1, half, half + 1, most - w, most - 1, most}
	for i := range list {
		list[i] &= most
	}
	slices.Sort(list)
	return slices.Compact(list)
}

// toldState: as the chapter's examples tell it: (5) (1 2) (7).
func toldState(state [][]uint64) string {
	var parts []string
	for _, list := range state {
		parts = append(parts, "("+strings.Trim(fmt.Sprint(list), "[]")+")")
	}
	return strings.Join(parts, " ")
}

// toldTrace: as the chapter's examples tell it: load 2 1; branch 1; release 7.
func toldTrace(trace []api.Event) string {
	var parts []string
	for _, e := range trace {
		switch {
		case e.Kind == api.EvBranch && e.B == 0:
			parts = append(parts, fmt.Sprint("branch ", e.A))
		case e.Kind == api.EvRelease && e.B == 0:
			parts = append(parts, fmt.Sprint("release ", e.A))
		case e.Kind == api.EvLoad, e.Kind == api.EvStore, e.Kind == api.EvDivide:
			word := []string{api.EvLoad: "load", api.EvStore: "store", api.EvDivide: "divide"}[e.Kind]
			parts = append(parts, fmt.Sprint(word, " ", e.A, " ", e.B))
		default:
			parts = append(parts, fmt.Sprintf("no event: %v", e))
		}
	}
	return strings.Join(parts, "; ")
}

// lengthOf: how many input words a right program has, if Length and Public agree.
func lengthOf(t testing.TB, p api.Program) int {
	t.Helper()
	n, e := Length(p)
	public, bad := Public(p)
	if e != api.OK || bad != api.OK || len(public) != n {
		t.Fatalf("%d inputs (%d), and public is %v (%d), of %s", n, e, public, bad, shown(p))
	}
	return n
}

// within: what was answered is within the bounds (P1706).
func within(t testing.TB, p api.Program, a api.Ended) {
	t.Helper()
	size, e := wf.Size(p)
	if e != api.OK || len(a.Trace) > size {
		t.Fatalf("%d events, and the size is %d (%d), of %s", len(a.Trace), size, e, shown(p))
	}
	for _, list := range a.State {
		for _, x := range list {
			if x > top(p.Width) {
				t.Fatalf("the word %d, of %s", x, shown(p))
			}
		}
	}
	for _, v := range a.Trace {
		most := top(p.Width)
		if v.Kind == api.EvLoad || v.Kind == api.EvStore { // A is no word, but a declaration's number
			most = uint64(len(p.Decls)) - 1
		}
		if v.A > most || v.B > top(p.Width) {
			t.Fatalf("the event %v, of %s", v, shown(p))
		}
	}
}

// endOf: what Run answers of a right program and inputs of its length, if that is within the bounds, the same again, and what the plain reading says.
func endOf(t testing.TB, p api.Program, in []uint64) api.Ended {
	t.Helper()
	a, e := Run(p, in)
	if e != api.OK {
		t.Fatalf("%d, of %v, of %s", e, in, shown(p))
	}
	within(t, p, a)
	b, _ := Run(p, in)
	for _, other := range []api.Ended{b, plainly(p, in)} {
		if fmt.Sprint(a) != fmt.Sprint(other) {
			t.Fatalf("%v, not %v, of %v, of\n%s", a, other, in, shown(p))
		}
	}
	return a
}

// endIs: a right program ends so.
func endIs(t testing.TB, text string, in []uint64, state, trace string) {
	t.Helper()
	a := endOf(t, parsed(t, text), in)
	if got := toldState(a.State); got != state {
		t.Fatalf("%s, of %v: the state is %s, not %s", text, in, got, state)
	}
	if got := toldTrace(a.Trace); got != trace {
		t.Fatalf("%s, of %v: the trace is %s, not %s", text, in, got, trace)
	}
}

// leakIs: what Leaks answers without an error, either way round.
func leakIs(t testing.TB, p api.Program, x, y []uint64, want bool, place int) {
	t.Helper()
	for range 2 {
		if got, k, e := Leaks(p, x, y); got != want || k != place || e != api.OK {
			t.Fatalf("%v and %v: %v, %d, %d, not %v, %d, of %s", x, y, got, k, e, want, place, shown(p))
		}
		x, y = y, x
	}
}

// leakFails: Leaks answers that error and nothing else, either way round.
func leakFails(t testing.TB, p api.Program, x, y []uint64, want api.Errno) {
	t.Helper()
	for range 2 {
		if got, k, e := Leaks(p, x, y); got || k != 0 || e != want {
			t.Fatalf("%v and %v: %v, %d, %d, not the error %d, of %s", x, y, got, k, e, want, shown(p))
		}
		x, y = y, x
	}
}
