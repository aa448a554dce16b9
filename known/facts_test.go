package known

import (
	"fmt"
	"math"
	"slices"
	"testing"

	"cadence/api"
	"cadence/term"
)

func TestFactsExamples(t *testing.T) {
	s := newStore(t)
	roots := all(t, s, "x:4", "y:4", "(add x:4 5:4)", "(ult (band x:4 3:4) 4:4)", "p", "(ite p x:4 0:4)", "(shl y:4 2:4)", "7:4", "T")
	is(t, "nothing told", factsOf(t, s, roots, nil, nil), facts("????", "????", "????", "t1", "t?", "????", "??00", "0111", "t1"))
	names := []string{"y", "x", "p"}
	told := facts("00?? 0 2", "???0 0 14", "t1")
	is(t, "told", factsOf(t, s, roots, names, told), facts("???0", "00?? 0 2", "???1", "t1", "t1", "???0", "??00 0 8", "0111", "t1"))
	told = facts("???1 0 6", "???? 9 9", "t?")
	is(t, "not settled", factsOf(t, s, roots, names, told), facts("1001", "0??1 1 5", "1110", "t1", "t?", "?00? 0 9", "?100", "0111", "t1"))
	is(t, "a root twice, in any order", factsOf(t, s, []int{roots[4], roots[0], roots[4]}, names, told), facts("t?", "1001", "t?"))
	is(t, "no root", len(factsOf(t, s, nil, names, told)), 0)
	is(t, "no root", len(factsOf(t, s, []int{}, nil, nil)), 0)
	is(t, "no root of a store without a term", len(factsOf(t, newStore(t), nil, names, told)), 0)
	is(t, "no root of the zero store", len(factsOf(t, &term.Store{}, nil, nil, nil)), 0)
}

// Names that no root hangs on may be told of any width, also those that other terms of the store have.
func TestFactsOfOthers(t *testing.T) {
	s := newStore(t)
	x, y := made(t, s, "(com x:4)"), made(t, s, "(com y:8)")
	names := []string{"z", "y", "nobody"}
	told := []api.Fact{fact("t1"), fact("0101"), {W: 64, Top: 3}}
	is(t, "x", factsOf(t, s, []int{x}, names, told), facts("????"))
	f, e := Facts(s, []int{x, y}, names, told)
	is(t, "y", []any{f, e}, []any{[]api.Fact(nil), api.ErrSort})
	told[1] = api.Fact{W: 8, One: 1, Least: 7, Top: 250}
	is(t, "y", factsOf(t, s, []int{y, x}, names, told), []api.Fact{{W: 8, Zero: 1, Least: 6, Top: 248}, {W: 4, Top: 15}})
}

// Many small stores, held against Apply term by term, by calls within one another.
func TestFactsOfManyStores(t *testing.T) {
	p := picker(11)
	for round := range 1500 {
		s := grown(t, &p, 10+round%60, true)
		roots := someRoots(&p, s)
		names, told := somethingTold(&p, varsOf(t, s, roots))
		got := factsOf(t, s, roots, names, told)
		found := map[int]api.Fact{}
		want := []api.Fact{}
		for _, r := range roots {
			want = append(want, plainFacts(t, s, r, names, told, found))
		}
		if !slices.Equal(got, want) {
			t.Fatalf("%v with %v %v: %v, not %v", roots, names, told, got, want)
		}
	}
}

// Very deep terms, and terms that would be far too great as trees.
func TestFactsOfDeepTerms(t *testing.T) {
	s := newStore(t)
	x := made(t, s, "x:8")
	n := x
	for range 1 << 19 {
		n = must[int](t)(s.Un(api.OpCom, n))
		n = must[int](t)(s.Bin(api.OpBand, n, n))
	}
	told := []api.Fact{{W: 8, One: 3, Least: 3, Top: 120}}
	list := must[[]api.Fact](t)(Facts(s, []int{n, n - 2}, []string{"x"}, told))
	// Each band keeps the bits, but its least word becomes what these let it be.
	is(t, "deep", list, []api.Fact{{W: 8, One: 3, Zero: 128, Least: 3, Top: 127}, {W: 8, One: 128, Zero: 3, Least: 128, Top: 252}})
}

// badNames: texts that are no names.
var badNames = []string{"", "1", "a b", "é", "a-", "abcdefghijklmnopqrstuvwxy", " a", "a\x00", "\xff"}

// noTerms: numbers that are no terms of a store.
func noTerms(s *term.Store) []int {
	return []int{0, -1, -2, math.MinInt, s.Len() + 1, s.Len() + 2, 1 << 32, 1<<32 + 1, math.MaxInt}
}

// asked: a call of Facts and of Learn with an error, beside which there is nothing.
type asked struct {
	roots []int
	names []string
	told  []api.Fact
}

func (a asked) refused(t *testing.T, s *term.Store, want api.Errno) {
	t.Helper()
	f, e := Facts(s, a.roots, a.names, a.told)
	if f != nil || e != want {
		t.Fatalf("Facts %v: %v %d, not %d", a, f, e, want)
	}
	a.refusedLearn(t, s, want)
}

func (a asked) refusedLearn(t *testing.T, s *term.Store, want api.Errno) {
	t.Helper()
	n, f, e := Learn(s, a.roots, a.names, a.told)
	if n != nil || f != nil || e != want {
		t.Fatalf("Learn %v: %v %v %d, not %d", a, n, f, e, want)
	}
}

// The errors that Facts and Learn have in common, each alone, and beside all that are named behind it.
func TestErrorsInOrder(t *testing.T) {
	s := newStore(t)
	x := made(t, s, "(ult x:4 y:4)")
	last := made(t, s, "p")
	before := shown(s)
	word, misfit, lacking := fact("????"), api.Fact{W: 65}, fact("???? 3 2")
	other := fact("?????") // of another width than x
	for _, roots := range [][]int{nil, {1}, {0}, {99, -1}} {
		for _, told := range [][]api.Fact{nil, {misfit, word}, {lacking}} {
			asked{roots, []string{"x", "x"}, told}.refused(t, nil, api.ErrNil)
			asked{roots, nil, told}.refused(t, nil, api.ErrNil)
		}
	}
	for _, bad := range noTerms(s) {
		for _, roots := range [][]int{{bad}, {x, bad}, {bad, x}, {x, bad, last}} {
			asked{roots, nil, nil}.refused(t, s, api.ErrTerm)
			asked{roots, []string{"1"}, []api.Fact{misfit, lacking}}.refused(t, s, api.ErrTerm)
			asked{roots, []string{"x"}, []api.Fact{other}}.refused(t, s, api.ErrTerm)
		}
	}
	asked{[]int{1}, nil, nil}.refused(t, &term.Store{}, api.ErrTerm)
	for _, roots := range [][]int{nil, {x}, {last, x}} {
		for _, name := range badNames {
			for _, names := range [][]string{{name}, {"x", name}, {name, "z"}, {"x", name, "z"}} {
				for _, told := range [][]api.Fact{nil, slices.Repeat([]api.Fact{word}, len(names)), {misfit}, {lacking, word}, {other}} {
					asked{roots, names, told}.refused(t, s, api.ErrName)
				}
			}
		}
		for _, names := range [][]string{{"x", "x"}, {"z", "x", "z"}, {"z", "z", "z"}, {"nobody", "y", "nobody"}} {
			for _, told := range [][]api.Fact{nil, slices.Repeat([]api.Fact{word}, len(names)), {misfit}, {lacking, word}, {other}} {
				asked{roots, names, told}.refused(t, s, api.ErrName)
			}
		}
	}
	is(t, "the store", shown(s), before)
	toldRefused(t, s, []int{x})
	toldRefused(t, s, nil)
	is(t, "the store", shown(s), before)
}

// toldRefused: told facts that may not be, wherever they stand and of how many names soever; then those without a word; then another number of them than of names; then another width.
func toldRefused(t *testing.T, s *term.Store, roots []int) {
	t.Helper()
	word, other := fact("????"), fact("?????")
	for _, misfit := range misfits() {
		for _, lacking := range []api.Fact{word, other, fact("???? 3 2")} {
			for _, told := range [][]api.Fact{{misfit}, {misfit, lacking}, {lacking, misfit}, {lacking, lacking, misfit}} {
				for _, names := range [][]string{nil, {"x"}, {"x", "y"}, {"nobody", "x", "y"}, {"x", "a", "b", "c"}} {
					asked{roots, names, told}.refused(t, s, api.ErrWidth)
				}
			}
		}
	}
	for _, lacking := range wordless() {
		for _, told := range [][]api.Fact{{lacking}, {lacking, other}, {other, lacking}, {other, lacking, lacking}} {
			for _, names := range [][]string{nil, {"x"}, {"x", "y"}, {"nobody", "x", "y"}} {
				asked{roots, names, told}.refused(t, s, api.ErrArg)
			}
		}
	}
	for _, names := range [][]string{nil, {"x"}, {"x", "y"}, {"y", "nobody", "x"}} {
		for _, told := range [][]api.Fact{{}, {other}, {other, word}, {word, word, word}, {other, other, other, other}} {
			switch {
			case len(names) != len(told):
				asked{roots, names, told}.refused(t, s, api.ErrArg)
			case roots != nil && len(told) > 0 && told[0] == other:
				asked{roots, names, told}.refused(t, s, api.ErrSort)
			default:
				factsOf(t, s, roots, names, told)
			}
		}
	}
}

// A told width other than the variable's: a truth and a word of one bit too.
func TestToldSorts(t *testing.T) {
	for _, w := range widths {
		for _, v := range widths {
			s := newStore(t)
			x := must[int](t)(s.Var("x", w))
			root := must[int](t)(s.Bin(api.OpEq, x, x))
			a := asked{[]int{root}, []string{"z", "x"}, []api.Fact{{W: 5, Top: 3}, {W: v, Top: 1}}}
			if w != v {
				a.refused(t, s, api.ErrSort)
				continue
			}
			got := factsOf(t, s, []int{x, root}, a.names, a.told)
			is(t, fmt.Sprint(w), got, []api.Fact{factOfWords(w, []uint64{0, 1}), {Top: 1}})
			a.told[1] = api.Fact{W: v, Least: 1, Top: 1}
			got = factsOf(t, s, []int{x, root}, a.names, a.told)
			is(t, fmt.Sprint(w), got, []api.Fact{factOfWords(w, []uint64{1}), factOfWords(0, []uint64{1})})
		}
	}
}
