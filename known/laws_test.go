package known

import (
	"fmt"
	"slices"
	"strings"
	"testing"

	"cadence/api"
	"cadence/eval"
	"cadence/term"
)

// P1401: the value of each term, for all values of the variables that are told, is a word of what is known of it.
func TestSound(t *testing.T) {
	p := picker(21)
	for round := range 600 {
		s := grown(t, &p, 15+round%50, true)
		roots := []int{}
		for i := range s.Len() {
			roots = append(roots, i+1)
		}
		vars := varsOf(t, s, roots)
		names, told := somethingTold(&p, vars)
		list := factsOf(t, s, roots, names, told)
		for _, f := range list {
			if again, e := Settle(f); e != api.OK || again != f {
				t.Fatalf("%v is not settled", f)
			}
		}
		for _, vals := range everyValue(vars, names, told) {
			values := must[[]uint64](t)(eval.Values(s, roots, vals))
			for i, x := range values {
				if !Has(list[i], x) {
					t.Fatalf("%v with %v %v: %v has not %d, which it is with %v", nodeOf(s, i+1), names, told, list[i], x, vals)
				}
			}
		}
	}
}

// P1401 of wide words, for some values.
func TestSoundWide(t *testing.T) {
	p := picker(22)
	text := []string{
		"(add (mul x:64 y:64) (shl x:64 (band y:64 7:64)))", "(sub (div x:64 y:64) (rem y:64 x:64))",
		"(ite (slt x:64 y:64) (rol x:64 y:64) (sar y:64 x:64))", "(sext (slice (bxor x:64 y:64) 20 33) 64)",
		"(zext (cat (slice x:64 60 4) (slice y:64 0 30)) 63)", "(ule (neg x:64) (com y:64))", "(eq (bor x:64 1:64) (band y:64 18446744073709551614:64))",
		"(shr (shl x:64 9:64) (ror y:64 63:64))", "(sle (add x:64 y:64) (sub x:64 y:64))",
	}
	s := newStore(t)
	roots := all(t, s, text...)
	for range 600 {
		names, told := []string{"y", "x"}, []api.Fact{someFact(&p, 64), someFact(&p, 64)}
		list := factsOf(t, s, roots, names, told)
		for range 10 {
			vals := []api.Value{{Name: "y", W: 64, Num: someWord(&p, told[0])}, {Name: "x", W: 64, Num: someWord(&p, told[1])}}
			for i, x := range must[[]uint64](t)(eval.Values(s, roots, vals)) {
				if !Has(list[i], x) {
					t.Fatalf("%s with %v: %v has not %d, which it is with %v", text[i], told, list[i], x, vals)
				}
			}
		}
	}
}

// holdLearnt: P1403: values for which all conditions are true are words of what is learnt; where nothing is left there are none.
func holdLearnt(t *testing.T, s *term.Store, conds []int, names []string, told []api.Fact) {
	t.Helper()
	vars := varsOf(t, s, conds)
	all, list, e := Learn(s, conds, names, told)
	for _, vals := range everyValue(vars, names, told) {
		if slices.Contains(must[[]uint64](t)(eval.Values(s, conds, vals)), 0) {
			continue
		}
		if e != api.OK {
			t.Fatalf("%v of\n%swith %v %v: error %d, but it can be: %v", conds, shown(s), names, told, e, vals)
		}
		for _, v := range vals {
			if i := slices.Index(all, v.Name); i >= 0 && !Has(list[i], v.Num) {
				t.Fatalf("%v of\n%swith %v %v: %v has not %v", conds, shown(s), names, told, list[i], v)
			}
		}
	}
	if e == api.OK {
		is(t, "the names told come first", all[:len(names)], names)
	}
}

func TestLearntHolds(t *testing.T) {
	p := picker(23)
	for round := range 3000 {
		s := newStore(t)
		conds := picked(&p, someConds(t, &p, s, 1+round%9), 5)
		names, told := somethingTold(&p, varsOf(t, s, conds))
		holdLearnt(t, s, conds, names, told)
	}
	for round := range 600 { // any truths
		s := grown(t, &p, 20+round%40, true)
		conds := []int{}
		for i := range s.Len() {
			if nodeOf(s, i+1).W == 0 && p.below(4) == 0 {
				conds = append(conds, i+1)
			}
		}
		names, told := somethingTold(&p, varsOf(t, s, conds))
		holdLearnt(t, s, conds, names, told)
	}
}

// P1404: a term without variables has just one word, its value.
func TestWithoutVariables(t *testing.T) {
	p := picker(24)
	for round := range 600 {
		s := grown(t, &p, 20+round, false)
		roots := []int{}
		for i := range s.Len() {
			roots = append(roots, i+1)
		}
		values := must[[]uint64](t)(eval.Values(s, roots, nil))
		for i, f := range factsOf(t, s, roots, []string{"x"}, facts("????")) {
			if want := factOfWords(nodeOf(s, i+1).W, values[i:i+1]); f != want {
				t.Fatalf("%v: %v, not %v", nodeOf(s, i+1), f, want)
			}
		}
	}
	s := newStore(t)
	root := made(t, s, "(sub (mul 12345678901234567:64 987654321987654321:64) (rol 1:64 63:64))")
	want := must[uint64](t)(eval.Value(s, root, nil))
	is(t, "wide", factsOf(t, s, []int{root}, nil, nil), []api.Fact{factOfWords(64, []uint64{want})})
}

// Variables that are told to be one word each: likewise the value alone.
func TestToldOneWordEach(t *testing.T) {
	p := picker(25)
	for round := range 300 {
		s := grown(t, &p, 20+round%60, true)
		roots := someRoots(&p, s)
		names, told, vals := []string{}, []api.Fact{}, []api.Value{}
		for _, v := range varsOf(t, s, roots) {
			x := p.next() & whole(v.W)
			names = append(names, v.Name)
			told = append(told, from(v.W, x, x))
			vals = append(vals, api.Value{Name: v.Name, W: v.W, Num: x})
		}
		values := must[[]uint64](t)(eval.Values(s, roots, vals))
		for i, f := range factsOf(t, s, roots, names, told) {
			is(t, "the value alone", f, factOfWords(f.W, values[i:i+1]))
		}
	}
}

// scribbled: all of a list, its spare room too, written over and grown.
func scribbled[T any](list []T, x T) {
	for i := range list[:cap(list)] {
		list[:cap(list)][i] = x
	}
	_ = append(list, x, x, x)
}

// What is handed out is the caller's, and what is handed in is not changed, nor its spare room, and not kept.
func TestMemoryOfFacts(t *testing.T) {
	s := newStore(t)
	room := append(all(t, s, "x:4", "(add x:4 y:4)", "x:4"), 98, 99)
	roots := room[:3]
	names := append(make([]string, 0, 4), "x", "y")
	told := append(make([]api.Fact, 0, 4), facts("???1 0 6", "000?")...)
	first := factsOf(t, s, roots, names, told)
	want := fmt.Sprint(facts("0??1 1 5", "0??? 1 6", "0??1 1 5"))
	is(t, "Facts", first, want)
	is(t, "spare room", fmt.Sprint(room[3:], names[:4], told[2:4]), fmt.Sprint([]int{98, 99}, []string{"x", "y", "", ""}, make([]api.Fact, 2)))
	scribbled(factsOf(t, s, roots, names, told), api.Fact{W: 77})
	is(t, "the first answer", first, want)
	is(t, "asked again", factsOf(t, s, roots, names, told), want)
	scribbled(first, api.Fact{W: 78})
	is(t, "what was told", []any{names, told}, []any{[]string{"x", "y"}, facts("???1 0 6", "000?")})
	again := factsOf(t, s, roots, names, told)
	is(t, "asked again", again, want)
	scribbled(told, fact("1111"))
	scribbled(names, "z")
	scribbled(room, 2)
	made(t, s, "(com x:4)")
	is(t, "behind the call", again, want)
}

func TestMemoryOfLearn(t *testing.T) {
	s := newStore(t)
	room := append(all(t, s, "(ult x:4 5:4)", "p", "(not (eq y:4 3:4))"), 98, 99)
	conds := room[:3]
	names := append(make([]string, 0, 6), "nobody", "x")
	told := append(make([]api.Fact, 0, 6), facts("t?", "???1")...)
	ask := func() ([]string, []api.Fact) {
		n, f, e := Learn(s, conds, names, told)
		is(t, "Learn", e, api.OK)
		return n, f
	}
	n, f := ask()
	want := knownText([]string{"nobody", "x", "p", "y"}, facts("t?", "00?1", "t1", "????"), api.OK)
	is(t, "Learn", knownText(n, f, api.OK), want)
	is(t, "spare room", fmt.Sprint(room[3:], strings.Join(names[:6], ","), told[2:6]), fmt.Sprint([]int{98, 99}, "nobody,x,,,,", make([]api.Fact, 4)))
	n2, f2 := ask()
	scribbled(n2, "z")
	scribbled(f2, api.Fact{W: 77})
	is(t, "the first answer", knownText(n, f, api.OK), want)
	is(t, "what was told", []any{names, told}, []any{[]string{"nobody", "x"}, facts("t?", "???1")})
	n2, f2 = ask()
	is(t, "asked again", knownText(n2, f2, api.OK), want)
	scribbled(n, "z")
	scribbled(f, api.Fact{W: 78})
	scribbled(told, fact("1111"))
	scribbled(names, "z")
	scribbled(room, 2)
	made(t, s, "(com x:4)")
	is(t, "behind the call", knownText(n2, f2, api.OK), want)

	// Where nothing is learnt it is new memory too.
	names, told = []string{"x"}, facts("???1")
	n, f, _ = Learn(s, nil, names, told)
	n[0], f[0] = "y", api.Fact{W: 5}
	is(t, "what was told", []any{names, told}, []any{[]string{"x"}, facts("???1")})
}
