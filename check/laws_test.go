package check

import (
	"fmt"
	"math"
	"strconv"
	"testing"

	"cadence/api"
	"cadence/flow"
	"cadence/lang"
	"cadence/need"
	"cadence/run"
)

// allInputs: of a program of 4 bits: each word of each position.
func allInputs(n int) [][]uint64 {
	if n == 0 {
		return [][]uint64{nil}
	}
	var all [][]uint64
	for _, in := range allInputs(n - 1) {
		for x := range uint64(16) {
			all = append(all, append(append([]uint64{}, in...), x))
		}
	}
	return all
}

// isConstantTime: of a program of 4 bits, by all pairs of inputs that are alike at public positions.
func isConstantTime(t testing.TB, p api.Program) bool {
	t.Helper()
	public, e := run.Public(p)
	if e != api.OK {
		t.Fatal(e)
	}
	traces := map[string]map[string][]api.Event{} // by the public words, then by their texts
	for _, in := range allInputs(len(public)) {
		key := ""
		for i, x := range in {
			if public[i] {
				key += fmt.Sprint(x, " ")
			}
		}
		r, e := run.Run(p, in)
		if e != api.OK {
			t.Fatal(e)
		}
		if traces[key] == nil {
			traces[key] = map[string][]api.Event{}
		}
		traces[key][fmt.Sprint(r.Trace)] = r.Trace
	}
	for _, set := range traces {
		for _, a := range set {
			for _, b := range set {
				if at, differ := run.Differ(a, b); differ && !(at < len(a) && at < len(b) && a[at].Kind == api.EvRelease && b[at].Kind == api.EvRelease) {
					return false
				}
			}
		}
	}
	return true
}

// toBudget: a need as a budget; what is greater than numbers are has no bound.
func toBudget(n api.Need) api.Budget {
	number := func(s string) int64 {
		x, err := strconv.ParseInt(s, 10, 64)
		if err != nil {
			return math.MaxInt64
		}
		return x
	}
	return budget(number(n.Paths), number(n.Terms), number(n.Clauses), number(n.Decisions))
}

// TestAllPairs: small programs, against all pairs of inputs: without bounds, and with no more than they need, a check says just whether they are constant time (P2401, P2402, P2405); what it used is not above that need (P2004), and with any budget it says so or that it does not know.
func TestAllPairs(t *testing.T) {
	k := picker(2405)
	kinds := map[string]int{}
	for range 120 {
		p := rightProgram(t, &k, maker{small: true, wild: k.below(4) == 0})
		want := map[bool]int{true: api.Secure, false: api.Leak}[isConstantTime(t, p)]
		n, e := need.Of(p)
		is(t, "need", e, api.OK)
		if !need.Roomy(n) || len(n.Paths) > 2 {
			kinds["too great"]++
			continue
		}
		v := answer(t, p, noBound())
		is(t, "all pairs of "+shown(p), kindWord(v.Kind), kindWord(want))
		is(t, "the same with what it needs", same(answer(t, p, toBudget(n)), v), true)
		if !need.Enough(n, v.Used) && !need.Enough(n, toBudget(n)) {
			t.Fatal("not enough")
		}
		for _, c := range fourCounters() {
			all := toBudget(n)
			if *counter(&v.Used, c) > *counter(&all, c) {
				t.Fatalf("counter %d: %v, and it needs %v, of %s", c, v.Used, n, shown(p))
			}
		}
		some := answer(t, p, anyBudget(&k, fair()))
		if some.Kind != want && some.Kind != api.Unknown {
			t.Fatalf("%s, and all pairs say %s of %s", told(some), kindWord(want), shown(p))
		}
		kinds[kindWord(want)]++
		if v.Used.Clauses > 20 && want == api.Secure {
			kinds["solved"]++
		}
	}
	if kinds["Secure"] < 30 || kinds["Leak"] < 20 || kinds["solved"] < 5 {
		t.Fatal("too few: ", kinds)
	}
}

// TestJustEnough: what a check used of a counter is enough for it, and one less is not, and then it is that counter (P2404, P2406).
func TestJustEnough(t *testing.T) {
	k := picker(2404)
	counts := [5]int{}
	for range 120 {
		p := rightProgram(t, &k, maker{small: true, wild: k.below(4) == 0})
		v := Program(p, budget(40, -1, -1, 5000))
		if v.Kind == api.Unknown {
			continue
		}
		is(t, "just that much of each", same(answer(t, p, v.Used), v), true)
		for _, c := range fourCounters() {
			most := *counter(&v.Used, c)
			is(t, "just that much", same(answer(t, p, bounded(c, most)), v), true)
			if most == 0 {
				continue
			}
			counts[c]++
			u := answer(t, p, bounded(c, most-1))
			is(t, "one less", []any{kindWord(u.Kind), u.Which}, []any{"Unknown", c})
			for _, d := range fourCounters() {
				if *counter(&u.Used, d) > *counter(&v.Used, d) {
					t.Fatalf("with less more is used: %v, %v, of %s", u.Used, v.Used, shown(p))
				}
			}
		}
	}
	for _, c := range fourCounters() {
		if counts[c] < 25 {
			t.Fatal("too few: ", counts)
		}
	}
}

// TestGrowing: budgets that grow step by step in one counter, or in all: what is not Unknown stays; what was used never is less (P2406).
func TestGrowing(t *testing.T) {
	k := picker(2406)
	known, later := 0, 0
	for range 150 {
		p := rightProgram(t, &k, maker{small: k.below(3) > 0, wild: k.below(4) == 0})
		b := budget(int64(k.below(3)), int64(k.below(40)), int64(k.below(200)), int64(k.below(20)))
		for range 4 {
			*counter(&b, pick(&k, fourCounters()...)) = pick(&k, int64(1<<40), int64(k.below(400)))
		}
		b.Paths, b.Decisions = min(b.Paths, 50), min(b.Decisions, 3000)
		last := Program(p, b)
		for range 12 {
			for _, c := range fourCounters() {
				if at := counter(&b, c); k.below(2) == 0 {
					*at += int64(k.below(int(min(*at, 1000)) + 5))
				}
			}
			b.Paths, b.Decisions = min(b.Paths, 50), min(b.Decisions, 3000)
			v := Program(p, b)
			if last.Kind != api.Unknown {
				known++
				is(t, "the same with more: "+shown(p), same(v, last), true)
			}
			for _, c := range fourCounters() {
				if *counter(&v.Used, c) < *counter(&last.Used, c) {
					t.Fatalf("with more less is used: %v, %v, of %s", v.Used, last.Used, shown(p))
				}
			}
			if last.Kind == api.Unknown && v.Kind != api.Unknown {
				later++
			}
			last = v
		}
		if last.Kind != api.Unknown {
			for _, c := range fourCounters() { // no bound is greater than all
				if c != api.CPaths && c != api.CDecisions {
					more := b
					*counter(&more, c) = pick(&k, int64(-1), -7, math.MinInt64, math.MaxInt64)
					is(t, "the same without a bound", same(Program(p, more), last), true)
				}
			}
		}
	}
	if known < 300 || later < 40 {
		t.Fatal("too few: ", known, later)
	}
}

// otherText: another text of the same tree: other blanks, remarks and brackets, numbers written otherwise.
func otherText(k *picker, s string) string {
	out := ""
	for i := 0; i < len(s); i++ {
		switch c := s[i]; {
		case c == ' ' || c == '\n':
			out += pick(k, " ", "  ", "\n", "\t", "\r\n ", " // not k;\n", "\n//\n")
		case c == ';':
			out += pick(k, ";", " ;", ";\n")
		case c == '[' || c == '(':
			out += pick(k, string(c), string(c)+" ")
		case c >= '0' && c <= '9' && (i == 0 || s[i-1] == ' ' || s[i-1] == '(') && i+1 < len(s) && (s[i+1] == ' ' || s[i+1] == ')' || s[i+1] == ';'):
			out += pick(k, string(c), "0"+string(c), "0x"+string(c), "0x00"+string(c))
		default:
			out += string(c)
		}
	}
	return out
}

// TestOneTree: texts of one tree have one verdict, with its witness and counters, which is the tree's (P2407).
func TestOneTree(t *testing.T) {
	k := picker(2407)
	others := 0
	for range 100 {
		p := rightProgram(t, &k, maker{small: k.below(2) == 0, wild: k.below(4) == 0})
		s := printed(t, p)
		for range 3 {
			other := otherText(&k, s)
			q, line, e := lang.Parse(other)
			if e != api.OK {
				t.Fatalf("%d in line %d of %s", e, line, other)
			}
			is(t, "the tree of "+other, printed(t, q), s)
			if other != s {
				others++
			}
			b := anyBudget(&k, fair())
			is(t, "one tree: "+other, same(Check(other, b), Check(s, b)), true)
			is(t, "the tree itself", same(Program(p, b), Check(other, b)), true)
			v := Check(other, b)
			is(t, "they hold of both", []bool{Hold(s, v), Hold(other, v)}, []bool{true, true})
		}
	}
	if others < 200 {
		t.Fatal("too few: ", others)
	}
	for _, rows := range [][]string{
		{leaky, "width 0x4;secret k;out x;begin if((k)){x=(1);}else{}end", "line 1; width 4; secret k; out x; begin if k { x = 0x1; } end // k"},
		{"secret k; out x; begin x = k + 1 * 2; if x - k == 2 { x = k - x - 1; } end", "width 32; secret k; out x; begin x = k + (1 * 2); if ((x - k) == 2) { x = (k - x) - 1; } end"},
	} {
		for _, c := range [...]api.Budget{noBound(), bounded(api.CTerms, 3), bounded(api.CDecisions, 2), bounded(api.CClauses, 2)} {
			for _, s := range rows {
				is(t, s, same(Check(text(s), c), Check(text(rows[0]), c)), true)
			}
		}
	}
}

// TestTyped: no check of a typed program is a Leak (P2408).
func TestTyped(t *testing.T) {
	k := picker(2408)
	typed, solved := 0, 0
	for i := 0; typed < 250; i++ {
		if i > 5000 {
			t.Fatal("too few: ", typed)
		}
		p := rightProgram(t, &k, maker{small: i%2 == 0})
		if _, e := flow.Check(p); e != api.OK {
			continue
		}
		typed++
		for _, b := range []api.Budget{fair(), anyBudget(&k, fair())} {
			v := Program(p, b)
			if v.Kind != api.Secure && v.Kind != api.Unknown {
				t.Fatalf("typed, and %s: %s", told(v), shown(p))
			}
			if v.Used.Clauses > 0 {
				solved++
			}
		}
	}
	if solved < 10 {
		t.Fatal("too few: ", solved)
	}
}
