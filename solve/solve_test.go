package solve

import (
	"fmt"
	"math"
	"testing"

	"cadence/api"
	"cadence/term"
)

// The examples of the chapter.
func TestExamples(t *testing.T) {
	s := newStore(t)
	is(t, "the variables", all(t, s, "k:4", "j:4"), "[1 2]")
	r := solved(t, s, all(t, s, "(ult k:4 2:4)", "(not (eq k:4 0:4))"), -1, -1)
	is(t, "k is 1", []any{r.Kind, r.Which, r.Values}, []any{api.Sat, 0, []api.Value{{Name: "k", W: 4, Num: 1}}})
	both := all(t, s, "(ult k:4 j:4)", "(ult j:4 k:4)")
	r = solved(t, s, both, -1, -1)
	is(t, "below each other", []any{r.Kind, r.Which, r.Values == nil, r.Clauses > 0}, []any{api.Unsat, 0, true, true})
	is(t, "no clauses", text(solved(t, s, both, 0, -1)), "no clauses; 0, 0")
	is(t, "no truth", text(solved(t, s, nil, 0, 0)), "sat ; 0, 0")
	_, e := Solve(s, []int{1}, -1, -1)
	is(t, "a word", e, api.ErrSort)
	_, e = Solve(s, []int{99}, -1, -1)
	is(t, "no term", e, api.ErrTerm)
	sums := all(t, s, "(add k:4 j:4)", "(add j:4 k:4)")
	is(t, "sums", compared(t, s, sums[0], sums[1], -1, -1).Kind, api.Unsat)
	is(t, "itself", text(compared(t, s, 1, 1, 1, 0)), "unsat; 1, 0")
	is(t, "itself", text(compared(t, s, 1, 1, 0, 0)), "no clauses; 0, 0")
}

// Written by hand: the values, and how many clauses and decisions it takes.
func TestByHand(t *testing.T) {
	for _, x := range []struct {
		truths []string
		want   string
	}{
		// Truths that are variables, and what gates there are.
		{[]string{"p"}, "sat p:0 1; 1, 0"},
		{[]string{"(not p)"}, "sat p:0 0; 1, 0"},
		{[]string{"(and p q)"}, "sat p:0 1, q:0 1; 4, 0"},
		{[]string{"p", "q"}, "sat p:0 1, q:0 1; 2, 0"},
		{[]string{"(or p q)"}, "sat p:0 0, q:0 1; 4, 1"},
		{[]string{"(or q p)"}, "sat p:0 1, q:0 0; 4, 1"},
		{[]string{"(xor p q)"}, "sat p:0 0, q:0 1; 10, 1"},
		{[]string{"(eq p q)"}, "sat p:0 0, q:0 0; 10, 1"},
		{[]string{"(eq p q)", "p"}, "sat p:0 1, q:0 1; 11, 0"},
		{[]string{"(xor p q)", "(eq p q)"}, "unsat; 11, 0"}, // one gate, and its opposite

		// A truth twice, and beside its opposite.
		{[]string{"p", "p"}, "sat p:0 1; 2, 0"},
		{[]string{"(not p)", "(not p)", "(not p)"}, "sat p:0 0; 3, 0"},
		{[]string{"p", "(not p)"}, "unsat; 2, 0"},
		{[]string{"(not p)", "q", "p"}, "unsat; 3, 0"},
		{[]string{"(or p q)", "(or p q)"}, "sat p:0 0, q:0 1; 5, 1"},
		{[]string{"(or p q)", "(not (or p q))"}, "unsat; 5, 0"},

		// Truths that are true or false outright.
		{[]string{"T"}, "sat ; 0, 0"},
		{[]string{"F"}, "unsat; 1, 0"},
		{[]string{"T", "T", "T"}, "sat ; 0, 0"},
		{[]string{"F", "T", "F"}, "unsat; 2, 0"},
		{[]string{"T", "p", "T"}, "sat p:0 1; 1, 0"},
		{[]string{"p", "F"}, "unsat; 2, 0"},
		{[]string{"F", "(or p q)", "T"}, "unsat; 5, 0"},
		{[]string{"(not F)", "(eq 3:4 3:4)", "(ult 1:8 2:8)"}, "sat ; 0, 0"},
		{[]string{"(eq (mul 3:8 5:8) 16:8)"}, "unsat; 1, 0"},

		// Variables that are gone when the truths are simple.
		{[]string{"(eq k:4 k:4)"}, "sat k:4 0; 0, 0"},
		{[]string{"(not (ult k:4 k:4))", "(or p (not p))"}, "sat k:4 0, p:0 0; 0, 0"},
		{[]string{"(ult k:4 0:4)"}, "unsat; 1, 0"},
		{[]string{"(eq (bxor (bxor k:2 j:2) k:2) 3:2)"}, "sat j:2 3, k:2 0; 4, 0"},
		{[]string{"(ite T p q)"}, "sat p:0 1, q:0 0; 1, 0"},
		{[]string{"(eq (band k:4 0:4) j:4)"}, "sat j:4 0, k:4 0; 10, 0"},
		{[]string{"(eq (cat k:4 j:4) (cat k:4 j:4))", "(eq i:1 1:1)"}, "sat i:1 1, j:4 0, k:4 0; 1, 0"},

		// Variables of which some bits alone are in the cone.
		{[]string{"(eq (band k:4 6:4) 2:4)"}, "sat k:4 2; 4, 0"},
		{[]string{"(eq (slice k:64 63 1) 1:1)", "(eq (slice k:64 0 1) 1:1)"}, "sat k:64 9223372036854775809; 2, 0"},

		// Words of all kinds of widths.
		{[]string{"(ult k:1 j:1)"}, "sat j:1 1, k:1 0; 13, 0"},
		{[]string{"(eq k:1 1:1)"}, "sat k:1 1; 1, 0"},
		{[]string{"(not (eq k:1 1:1))"}, "sat k:1 0; 1, 0"},
		{[]string{"(eq k:8 0xa5:8)"}, "sat k:8 165; 22, 0"},
		{[]string{"(eq k:63 0x7000000000000001:63)"}, "sat k:63 8070450532247928833; 187, 0"},
		{[]string{"(eq k:64 0xfedcba9876543210:64)"}, "sat k:64 18364758544493064720; 190, 0"},
		{[]string{"(eq k:64 0xffffffffffffffff:64)", "(eq j:63 0x7fffffffffffffff:63)"}, "sat j:63 9223372036854775807, k:64 18446744073709551615; 377, 0"},
		{[]string{"(not (eq k:8 0:8))"}, "sat k:8 128; 22, 7"},
		{[]string{"(not (eq k:63 0:63))"}, "sat k:63 4611686018427387904; 187, 62"},
		{[]string{"(not (eq k:64 0:64))"}, "sat k:64 9223372036854775808; 190, 63"},
	} {
		s := newStore(t)
		made(t, s, "(add other:16 zz:16)")
		truths := all(t, s, x.truths...)
		made(t, s, "(eq (add other:16 later:16) 7:16)")
		is(t, fmt.Sprint(x.truths), text(solved(t, s, truths, -1, -1)), x.want)
	}
}

// No truth at all, in stores with and without terms.
func TestNoTruth(t *testing.T) {
	full := newStore(t)
	all(t, full, "(ult k:4 j:4)", "F", "p")
	limited := must[*term.Store](t)(term.New(1))
	for _, s := range []*term.Store{full, limited, {}} {
		for _, truths := range [][]int{nil, {}} {
			for _, most := range []int64{math.MinInt64, -1, 0, 1, math.MaxInt64} {
				is(t, "Solve", text(solved(t, s, truths, most, -most)), "sat ; 0, 0")
			}
			f, bits := formed(t, s, truths)
			is(t, "Formula", []int{f.Vars, len(f.Clauses), len(bits)}, "[0 0 0]")
		}
	}
}

// The values by the bytes of their names: great letters, then _, then small ones; a name ahead of those that it begins; not in the order in which they stand in the truths, or in the store.
func TestOrderOfValues(t *testing.T) {
	names := []string{"A", "A0", "A00", "AA", "A_", "Aa", "B", "Z", "_", "_0", "_A", "__", "_a", "a", "a1", "a10", "a1_", "a2", "aB", "a_", "a_1", "aa", "aaaaaaaaaaaaaaaaaaaaaaa", "aaaaaaaaaaaaaaaaaaaaaaaa", "ab", "b", "z", "z9"}
	want := []api.Value{}
	for i, name := range names {
		want = append(want, api.Value{Name: name, W: i % 3, Num: uint64(i%2 | i%3&2)})
	}
	p := picker(7)
	for range 60 {
		s := newStore(t)
		shuffled := p.shuffled(len(want))
		for _, i := range p.shuffled(len(want)) {
			must[int](t)(s.Var(names[i], want[i].W))
		}
		truths := []int{}
		for _, i := range shuffled {
			truths = append(truths, made(t, s, exactly(want[i])))
		}
		is(t, "Values", solved(t, s, truths, -1, -1).Values, want)
		truth := truths[0]
		for _, x := range truths[1:] {
			truth = must[int](t)(s.Bin(api.OpAnd, x, truth))
		}
		is(t, "Values of one truth", solved(t, s, []int{truth}, -1, -1).Values, want)
	}
}

// exactly: the text of a truth that only one value of a variable makes true.
func exactly(v api.Value) string {
	switch {
	case v.W > 0:
		return fmt.Sprintf("(eq %s:%d %d:%d)", v.Name, v.W, v.Num, v.W)
	case v.Num == 1:
		return v.Name
	}
	return "(not " + v.Name + ")"
}

// shuffled: the numbers below n.
func (p *picker) shuffled(n int) []int {
	list := []int{}
	for i := range n {
		k := p.below(i + 1)
		list = append(list, i)
		list[i], list[k] = list[k], i
	}
	return list
}

// Variables of the store that the truths do not hang on are not told; those that they hang on are, though they are gone.
func TestVariablesThatAreTold(t *testing.T) {
	s := newStore(t)
	all(t, s, "(ult a:4 b:4)", "c", "(and d (eq e:8 f:8))")
	truths := all(t, s, "(or d (eq e:8 (sub e:8 (sub g:8 g:8))))", "(eq a:4 5:4)")
	all(t, s, "(xor h d)", "i:4")
	is(t, "Solve", text(solved(t, s, truths, -1, -1)), "sat a:4 5, d:0 0, e:8 0, g:8 0; 10, 0")
	is(t, "Solve", text(solved(t, s, truths[1:], -1, -1)), "sat a:4 5; 10, 0")
	is(t, "Solve", text(solved(t, s, truths[:1], -1, -1)), "sat d:0 0, e:8 0, g:8 0; 0, 0")
	same := all(t, s, "(add a:4 (sub i:4 i:4))", "b:4")
	is(t, "Same", compared(t, s, same[0], same[1], -1, -1).Values, "[{a 4 0} {b 4 8} {i 4 0}]")
	is(t, "Same", compared(t, s, same[1], same[0], -1, -1).Values, "[{a 4 8} {b 4 0} {i 4 0}]")
}

// Terms far deeper than calls can be nested.
func TestDeep(t *testing.T) {
	s := newStore(t)
	x := made(t, s, "p")
	for range 1 << 20 {
		x = must[int](t)(s.Un(api.OpNot, x))
	}
	is(t, "nots", text(must[api.Result](t)(Solve(s, []int{x, x - 2}, -1, -1))), "sat p:0 1; 2, 0")
	is(t, "nots", text(must[api.Result](t)(Solve(s, []int{x, x - 1}, -1, -1))), "unsat; 2, 0")
	is(t, "nots", text(must[api.Result](t)(Same(s, x, x-1, -1, -1))), "sat p:0 0; 0, 0")
	k, one := made(t, s, "k:4"), made(t, s, "1:4")
	sum := k
	for range 1 << 18 {
		sum = must[int](t)(s.Bin(api.OpAdd, one, sum))
	}
	is(t, "sums", text(must[api.Result](t)(Same(s, sum, k, -1, -1))), "unsat; 1, 0")
}
