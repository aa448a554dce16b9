package check

import (
	"fmt"
	"math"
	"strings"
	"testing"

	"cadence/api"
	"cadence/flat"
	"cadence/lang"
	"cadence/pair"
	"cadence/run"
	"cadence/solve"
	"cadence/wf"
)

// picker tells numbers that look like chance, the same ones in each run.
type picker uint64

func (p *picker) next() uint64 {
	*p ^= *p << 13
	*p ^= *p >> 7
	*p ^= *p << 17
	return uint64(*p)
}

func (p *picker) below(n int) int { return int(p.next() >> 11 % uint64(n)) }

func pick[T any](p *picker, list ...T) T { return list[p.below(len(list))] }

// is: what was answered is what the chapter says.
func is(t testing.TB, what string, got, want any) {
	t.Helper()
	if fmt.Sprint(got) != fmt.Sprint(want) {
		t.Fatalf("%s: %v, not %v", cut(what), got, want)
	}
}

// cut: a text that may be too long to be told.
func cut(s string) string {
	if len(s) > 3000 {
		return s[:2000] + " .. " + s[len(s)-1000:]
	}
	return s
}

// noBound: of no counter.
func noBound() api.Budget { return api.Budget{Paths: -1, Terms: -1, Clauses: -1, Decisions: -1} }

// budget: in the order of the counters.
func budget(paths, terms, clauses, decisions int64) api.Budget {
	return api.Budget{Paths: paths, Terms: terms, Clauses: clauses, Decisions: decisions}
}

// counter: the one of a budget that has a number.
func counter(b *api.Budget, which int) *int64 {
	return []*int64{api.CPaths: &b.Paths, api.CTerms: &b.Terms, api.CClauses: &b.Clauses, api.CDecisions: &b.Decisions}[which]
}

// bounded: a budget whose one counter has a bound.
func bounded(which int, bound int64) api.Budget {
	b := noBound()
	*counter(&b, which) = bound
	return b
}

// counters of a check that have a bound.
func fourCounters() []int { return []int{api.CPaths, api.CTerms, api.CClauses, api.CDecisions} }

// text: the whole of a program's text; what is handed in goes without the words that all begin with.
func text(rest string) string { return "program p; " + rest }

// parsed: the tree of such a text.
func parsed(t testing.TB, rest string) api.Program {
	t.Helper()
	p, line, e := lang.Parse(text(rest))
	if e != api.OK {
		t.Fatalf("%s: %d in line %d", cut(rest), e, line)
	}
	return p
}

// right: the tree of such a text that is right.
func right(t testing.TB, rest string) api.Program {
	t.Helper()
	p := parsed(t, rest)
	if e := wf.Check(p); e != api.OK {
		t.Fatalf("%s: %d", cut(rest), e)
	}
	return p
}

// printed: a program's text.
func printed(t testing.TB, p api.Program) string {
	t.Helper()
	s, e := lang.Print(p)
	if e != api.OK {
		t.Fatalf("no text: %d, of %+v", e, p)
	}
	return s
}

// told: all of a verdict but X and Y.
func told(v api.Verdict) string {
	return fmt.Sprintf("%s which %d at %d code %d used %v", kindWord(v.Kind), v.Which, v.At, int(v.Code), v.Used)
}

func kindWord(kind int) string {
	return []string{"nothing", "Secure", "Leak", "Reject", "Unknown", "Stopped"}[kind]
}

// same: two verdicts, in all their fields.
func same(v, w api.Verdict) bool {
	return told(v) == told(w) && fmt.Sprint(v.X, v.Y) == fmt.Sprint(w.X, w.Y)
}

// verdictIs: all faces that tell a verdict of a tree that could be a text's tell this one; it holds, and has what its Kind has.
func verdictIs(t testing.TB, what string, p api.Program, b api.Budget, want api.Verdict) {
	t.Helper()
	s := printed(t, p)
	_, asked := Queries(p, b)
	for i, v := range []api.Verdict{Check(s, b), Program(p, b), Run(s, b, nil), asked} {
		if !same(v, want) {
			t.Fatalf("%s, budget %v: call %d tells %s %v %v, not %s %v %v", cut(what), b, i, told(v), v.X, v.Y, told(want), want.X, want.Y)
		}
		wellFormed(t, p, b, v)
	}
}

// answer: the verdict of a program, which all faces tell.
func answer(t testing.TB, p api.Program, b api.Budget) api.Verdict {
	t.Helper()
	v := Program(p, b)
	verdictIs(t, shown(p), p, b, v)
	return v
}

// shown: a program's text, cut.
func shown(p api.Program) string {
	s, e := lang.Print(p)
	if e != api.OK {
		s = fmt.Sprintf("%+v", p)
	}
	return cut(s)
}

// wellFormed: what holds of every verdict of a right program that nobody stopped: one of three Kinds (P2403), fields that it has not are 0 (F24.1), no counter is above its bound (P2404), a Leak is one (P2402), and it holds (P2409).
func wellFormed(t testing.TB, p api.Program, b api.Budget, v api.Verdict) {
	t.Helper()
	what := shown(p) + told(v)
	if v.Kind != api.Secure && v.Kind != api.Leak && v.Kind != api.Unknown {
		t.Fatalf("%s: such a Kind", what)
	}
	is(t, what+": Which", v.Which != 0, v.Kind == api.Unknown)
	if v.Which < 0 || v.Which > api.CRoom {
		t.Fatalf("%s: such a Which", what)
	}
	is(t, what+": Code", v.Code, api.OK)
	for _, c := range fourCounters() {
		used, bound := *counter(&v.Used, c), *counter(&b, c)
		if used < 0 || bound >= 0 && used > bound {
			t.Fatalf("%s: counter %d, bound %d", what, c, bound)
		}
	}
	if v.Kind == api.Leak {
		leaks, at, e := run.Leaks(p, v.X, v.Y)
		is(t, what+": Leaks", []any{leaks, at, e}, []any{true, v.At, api.OK})
		for _, x := range append(append([]uint64{}, v.X...), v.Y...) {
			if x > math.MaxUint64>>(64-p.Width) {
				t.Fatalf("%s: a word %d", what, x)
			}
		}
	} else {
		is(t, what+": X, Y, At", []any{len(v.X), len(v.Y), v.At}, []any{0, 0, 0})
	}
	is(t, what+": Hold", Hold(printed(t, p), v), true)
}

// checked: a check by text comes to a Kind, a Which, an At and counters; all faces tell it.
func checked(t testing.TB, rest string, b api.Budget, want string) api.Verdict {
	t.Helper()
	v := answer(t, right(t, rest), b)
	if told(v) != want {
		t.Fatalf("%s, budget %v: %s, not %s", cut(rest), b, told(v), want)
	}
	return v
}

// comesTo: a check comes to a Kind, however far the counters went.
func comesTo(t testing.TB, rest string, b api.Budget, kind int) api.Verdict {
	t.Helper()
	v := answer(t, right(t, rest), b)
	if v.Kind != kind {
		t.Fatalf("%s, budget %v: %s, not %s", cut(rest), b, told(v), kindWord(kind))
	}
	return v
}

// asked: the queries of a program, each as its events, its kind and how many truths it has: 3 unsat 2.
func asked(l []Query) string {
	var all []string
	for _, q := range l {
		all = append(all, fmt.Sprint(q.Events, " ", []string{"nothing", "sat", "unsat", "spent"}[q.Kind], " ", len(q.Truths)))
	}
	return strings.Join(all, ", ")
}

// wayTo: the way of a program up to its first Differ, by hand.
func wayTo(t testing.TB, p api.Program) (*pair.Way, pair.Ask) {
	t.Helper()
	f, e := flat.Make(p)
	if e != api.OK {
		t.Fatalf("no code: %d", e)
	}
	w, e := pair.Start(f)
	if e != api.OK {
		t.Fatalf("no way: %d", e)
	}
	return w, w.Next(-1)
}

// clausesOf: how many clauses the query of some truths of a way has.
func clausesOf(t testing.TB, w *pair.Way, truths ...int) int64 {
	t.Helper()
	f, _, e := solve.Formula(w.Store(), truths)
	if e != api.OK {
		t.Fatalf("no formula: %d", e)
	}
	return int64(len(f.Clauses))
}
