package known

import (
	"fmt"
	"slices"
	"strings"
	"testing"

	"cadence/api"
	"cadence/term"
)

// learnRows: conditions, what is told, and what is learnt; written by hand. Of x, y and z words of 4 bits; a ! stands for ErrArg.
const learnRows = `
p | | p t1
(not p) | | p t0
(eq x:4 5:4) | | x 0101
(eq 5:4 x:4) | | x 0101
(eq x:4 0:4) | | x 0000
(eq x:4 15:4) | | x 1111
(not (eq x:4 0:4)) | | x ???? 1 15
(not (eq 0:4 x:4)) | | x ???? 1 15
(not (eq x:4 15:4)) | | x ???? 0 14
(not (eq 15:4 x:4)) | | x ???? 0 14
(not (eq x:4 7:4)) | | x ????
(not (eq 7:4 x:4)) | | x ????
(ult x:4 5:4) | | x 0??? 0 4
(ult x:4 0:4) | | !
(ult x:4 1:4) | | x 0000
(ult x:4 15:4) | | x ???? 0 14
(ult 5:4 x:4) | | x ???? 6 15
(ult 15:4 x:4) | | !
(ult 14:4 x:4) | | x 1111
(ult 0:4 x:4) | | x ???? 1 15
(not (ult x:4 5:4)) | | x ???? 5 15
(not (ult x:4 0:4)) | | x ????
(not (ult x:4 15:4)) | | x 1111
(not (ult 5:4 x:4)) | | x 0??? 0 5
(not (ult 15:4 x:4)) | | x ????
(not (ult 0:4 x:4)) | | x 0000
(ule x:4 5:4) | | x 0??? 0 5
(ule x:4 0:4) | | x 0000
(ule x:4 15:4) | | x ????
(ule 5:4 x:4) | | x ???? 5 15
(ule 0:4 x:4) | | x ????
(ule 15:4 x:4) | | x 1111
(not (ule x:4 5:4)) | | x ???? 6 15
(not (ule x:4 15:4)) | | !
(not (ule x:4 14:4)) | | x 1111
(not (ule x:4 0:4)) | | x ???? 1 15
(not (ule 5:4 x:4)) | | x 0??? 0 4
(not (ule 0:4 x:4)) | | !
(not (ule 1:4 x:4)) | | x 0000
(not (ule 15:4 x:4)) | | x ???? 0 14
T | |
F | |
(not T) | |
(not F) | |
(or p q) | |
(or p p) | |
(xor p q) | |
(not (not p)) | |
(not (and p q)) | |
(not (or p q)) | |
(ite p q r) | |
(eq p q) | |
(eq p T) | |
(not (eq F p)) | |
(eq x:4 y:4) | |
(eq x:4 x:4) | |
(eq 5:4 5:4) | |
(eq 5:4 6:4) | |
(ult 6:4 5:4) | |
(ule x:4 y:4) | |
(not (ult x:4 y:4)) | |
(slt x:4 5:4) | |
(sle 5:4 x:4) | |
(not (slt x:4 5:4)) | |
(eq (add x:4 1:4) 5:4) | |
(eq 5:4 (com x:4)) | |
(ult (zext x:4 5) 3:5) | |
(ule (slice x:4 0 2) 1:2) | |
(eq x:4 5:4); (or p q) | | x 0101
(ult x:4 5:4); (not (eq x:4 0:4)) | | x 0??? 1 4
(not (eq x:4 0:4)); (ult x:4 5:4) | | x 0??? 1 4
(not (eq x:4 3:4)); (ule 3:4 x:4) | | x ???? 3 15
(ule 3:4 x:4); (not (eq x:4 3:4)) | | x ???? 4 15
(not (eq x:4 3:4)); (ule 3:4 x:4); (not (eq x:4 3:4)) | | x ???? 4 15
(not (eq x:4 1:4)); (not (eq x:4 0:4)) | | x ???? 1 15
(not (eq x:4 0:4)); (not (eq x:4 1:4)) | | x ???? 2 15
(not (eq x:4 14:4)); (not (eq x:4 15:4)) | | x ???? 0 14
(not (eq x:4 15:4)); (not (eq x:4 14:4)) | | x ???? 0 13
(ult x:4 9:4); (ult 3:4 x:4); (ule x:4 7:4); (ule 2:4 x:4) | | x 01??
(ule x:4 5:4); (ule x:4 9:4) | | x 0??? 0 5
(ule 9:4 x:4); (ule 5:4 x:4) | | x 1??? 9 15
(ule x:4 5:4); (ule 5:4 x:4) | | x 0101
(ule x:4 5:4); (ule 6:4 x:4) | | !
(eq x:4 5:4); (eq x:4 5:4) | | x 0101
(eq x:4 5:4); (eq x:4 6:4) | | !
(eq x:4 5:4); (not (eq x:4 5:4)) | | !
(not (eq x:4 5:4)); (eq x:4 5:4) | | x 0101
p; (not p) | | !
(not p); p | | !
p; p | | p t1
(and p (not q)) | | p t1; q t0
(and (and (ult x:4 5:4) p) (and (not q) (ult 1:4 x:4))) | | x 0??? 2 4; p t1; q t0
(and (not (eq x:4 3:4)) (ule 3:4 x:4)) | | x ???? 3 15
(and (ule 3:4 x:4) (not (eq x:4 3:4))) | | x ???? 4 15
(and (and (not (eq x:4 3:4)) (ule 3:4 x:4)) (and (not (eq x:4 3:4)) (ule 3:4 x:4))) | | x ???? 4 15
(and (not (eq x:4 3:4)) (ule 3:4 x:4)); (and (not (eq x:4 3:4)) (ule 3:4 x:4)) | | x ???? 4 15
(and (or p q) (eq x:4 y:4)) | |
(and F p) | | p t1
(and p (ult x:4 0:4)) | | !
(ult y:4 3:4); p; (ult 3:4 x:4); (not (eq z:4 9:4)) | | y 00?? 0 2; p t1; x ???? 4 15; z ????
(ult y:4 3:4); p; (ult 3:4 x:4) | x ???? 0 6; nobody t?; y ???1 | x 01?? 4 6; nobody t?; y 0001; p t1
(ult x:4 5:4) | x ???1 | x 00?1
(not (eq x:4 1:4)) | x ???1 | x ???1 3 15
(not (eq x:4 15:4)) | x ???1 | x ???1 1 13
(not (eq x:4 0:4)) | x ???1 | x ???1
(not (eq x:4 5:4)) | x ???? 5 6 | x 0110
(not (eq x:4 6:4)) | x ???? 5 6 | x 0101
(not (eq x:4 5:4)); (not (eq x:4 6:4)) | x ???? 5 6 | !
(not (eq x:4 5:4)) | x 0101 | !
(not (eq x:4 0:4)) | x 0000 | !
(not (eq x:4 15:4)) | x 1111 | !
(eq x:4 4:4) | x ???1 | !
(eq x:4 7:4) | x ???1 | x 0111
(ule x:4 4:4) | x ???? 5 6 | !
(ule 7:4 x:4) | x ???? 5 6 | !
(not (ult x:4 5:4)) | x ???? 5 6 | x 01?? 5 6
(ule x:4 9:4) | x ?0?? 4 12 | x 100?
p | p t0 | !
p | p t1 | p t1
(not p) | p t1 | !
p | p t? | p t1
(or p q) | q t1; x 0101 | q t1; x 0101
(or p q) | q t? 1 1; x ???1 0 6 | q t1; x 0??1 1 5
(ult b:1 1:1) | | b 0
(not (eq b:1 0:1)) | | b 1
(eq b:1 1:1); (not (eq b:1 1:1)) | | !
`

// toldText: names and facts of a text.
func toldText(text string) ([]string, []api.Fact) {
	names, list := []string{}, []api.Fact{}
	for _, part := range strings.Split(text, ";") {
		if name, rest, _ := strings.Cut(strings.TrimSpace(part), " "); name != "" {
			names = append(names, name)
			list = append(list, fact(rest))
		}
	}
	return names, list
}

func TestLearnRows(t *testing.T) {
	for _, row := range strings.Split(strings.TrimSpace(learnRows), "\n") {
		parts := strings.Split(row, "|")
		s := newStore(t)
		conds := all(t, s, strings.Split(parts[0], ";")...)
		names, told := toldText(parts[1])
		want := fmt.Sprint("error ", int(api.ErrArg))
		if strings.TrimSpace(parts[2]) != "!" {
			wantNames, wantFacts := toldText(parts[2])
			want = knownText(wantNames, wantFacts, api.OK)
		}
		is(t, row, learnt(t, s, conds, names, told), want)
	}
}

// No condition at all, also of stores without a term: what is told, settled.
func TestLearnOfNothing(t *testing.T) {
	names, told := []string{"b", "a"}, facts("???1 0 6", "t?")
	for _, s := range []*term.Store{newStore(t), {}} {
		is(t, "told", learnt(t, s, nil, names, told), knownText(names, facts("0??1 1 5", "t?"), api.OK))
		is(t, "nothing", learnt(t, s, []int{}, nil, nil), "")
	}
}

// The ends of 63 and 64 bits.
func TestLearnWide(t *testing.T) {
	for _, w := range []int{63, 64} {
		top := whole(w)
		for _, row := range []struct {
			text        string // with X for the greatest word
			least, last uint64
		}{
			{"(ult x k:X)", 0, top - 1}, {"(ule k:X x)", top, top}, {"(ult k:0 x)", 1, top}, {"(not (eq x k:X))", 0, top - 1},
			{"(not (ult x k:X))", top, top}, {"(not (ule x k:0))", 1, top}, {"(eq k:X x)", top, top}, {"(not (ult k:X x))", 0, top},
			{"(ult k:X x)", 1, 0}, {"(ult x k:0)", 1, 0}, {"(not (ule x k:X))", 1, 0}, {"(not (ule k:0 x))", 1, 0},
		} {
			text := strings.NewReplacer("k:X", fmt.Sprint(top, ":", w), "k:0", fmt.Sprint("0:", w), "x", fmt.Sprint("x:", w)).Replace(row.text)
			s := newStore(t)
			want := fmt.Sprint("error ", int(api.ErrArg))
			if row.least <= row.last {
				want = knownText([]string{"x"}, []api.Fact{plainSettle(from(w, row.least, row.last))}, api.OK)
			}
			is(t, text, learnt(t, s, all(t, s, text), nil, nil), want)
		}
	}
}

// What is no truth, behind ErrTerm and ahead of all that is said of names.
func TestLearnSorts(t *testing.T) {
	s := newStore(t)
	truth := made(t, s, "(ult x:4 y:4)")
	words := all(t, s, "x:4", "b:1", "3:64", "(zext b:1 2)", "1:1")
	before := shown(s)
	for _, word := range words {
		for _, conds := range [][]int{{word}, {truth, word}, {word, truth}, {word, word}} {
			asked{conds, nil, nil}.refusedLearn(t, s, api.ErrSort)
			for _, names := range [][]string{{"1"}, {"x"}, {"x", "x"}} {
				for _, told := range [][]api.Fact{nil, {{W: 65}}, {fact("???? 3 2")}, {fact("?????")}} {
					asked{conds, names, told}.refusedLearn(t, s, api.ErrSort)
				}
			}
			for _, bad := range noTerms(s) {
				asked{append(slices.Clone(conds), bad), []string{"1"}, nil}.refusedLearn(t, s, api.ErrTerm)
				asked{append([]int{bad}, conds...), nil, nil}.refusedLearn(t, s, api.ErrTerm)
			}
		}
	}
	is(t, "the store", shown(s), before)
	// Of a variable that stands in no condition that tells something the width counts too; and it counts ahead of what would leave no word.
	never := made(t, s, "(ult z:4 0:4)")
	asked{[]int{never}, nil, nil}.refusedLearn(t, s, api.ErrArg)
	asked{[]int{never, truth}, []string{"y"}, []api.Fact{fact("?????")}}.refusedLearn(t, s, api.ErrSort)
	asked{[]int{truth}, []string{"y"}, []api.Fact{fact("t?")}}.refusedLearn(t, s, api.ErrSort)
}

// plainLearner: the section F14.5, by calls within one another.
type plainLearner struct {
	s     *term.Store
	names []string
	facts []api.Fact
}

// keep: what is left of a variable, from a number up to another (whole numbers, so that -1 and 16 may come); false, if that is nothing.
func (l *plainLearner) keep(v api.Node, least, top int) bool {
	i := l.at(v)
	f := l.facts[i]
	if top < 0 || least > int(whole(v.W)) {
		return false
	}
	f.Least, f.Top = max(f.Least, uint64(max(least, 0))), min(f.Top, uint64(top))
	words := wordsOf(f)
	if len(words) == 0 {
		return false
	}
	l.facts[i] = factOfWords(v.W, words)
	return true
}

func (l *plainLearner) at(v api.Node) int {
	i := slices.Index(l.names, v.Name)
	if i < 0 {
		i = len(l.names)
		l.names = append(l.names, v.Name)
		l.facts = append(l.facts, api.Fact{W: v.W, Top: whole(v.W)})
	}
	return i
}

func (l *plainLearner) take(t int) bool {
	n := nodeOf(l.s, t)
	switch n.Op {
	case api.OpAnd:
		return l.take(n.A) && l.take(n.B)
	case api.OpVar:
		return l.keep(n, 1, 1)
	case api.OpNot:
		if of := nodeOf(l.s, n.A); of.Op == api.OpVar {
			return l.keep(of, 0, 0)
		} else if of.Op >= api.OpEq && of.Op <= api.OpUle {
			return l.compare("not "+opWords[of.Op], of)
		}
	case api.OpEq, api.OpUlt, api.OpUle:
		return l.compare(opWords[n.Op], n)
	}
	return true
}

func (l *plainLearner) compare(what string, n api.Node) bool {
	a, b := nodeOf(l.s, n.A), nodeOf(l.s, n.B)
	x, k := a, int(b.Num)
	switch {
	case a.Op == api.OpVar && b.Op == api.OpConst:
		what += " x k"
	case a.Op == api.OpConst && b.Op == api.OpVar:
		what += " k x"
		x, k = b, int(a.Num)
	default:
		return true
	}
	last := int(whole(x.W))
	switch what {
	case "eq x k", "eq k x":
		return l.keep(x, k, k)
	case "not eq x k", "not eq k x":
		f := l.facts[l.at(x)]
		ok := true
		if int(f.Least) == k {
			ok = l.keep(x, k+1, last)
		}
		return ok && (int(f.Top) != k || l.keep(x, 0, k-1))
	case "ult x k", "not ule k x":
		return l.keep(x, 0, k-1)
	case "ult k x", "not ule x k":
		return l.keep(x, k+1, last)
	case "not ult x k", "ule k x":
		return l.keep(x, k, last)
	}
	return l.keep(x, 0, k) // not ult k x, ule x k
}

// plainLearn: as a text.
func plainLearn(s *term.Store, conds []int, names []string, told []api.Fact) string {
	l := plainLearner{s: s, names: slices.Clone(names)}
	for _, f := range told {
		l.facts = append(l.facts, plainSettle(f))
	}
	for _, c := range conds {
		if !l.take(c) {
			return knownText(nil, nil, api.ErrArg)
		}
	}
	return knownText(l.names, l.facts, api.OK)
}

// someConds: conditions of all forms, in one store, over x, y, z, p, q, with ands that share their parts.
func someConds(t testing.TB, p *picker, s *term.Store, count int) []int {
	t.Helper()
	w := 1 + p.below(3)
	list := []int{}
	for range count {
		x, y := fmt.Sprint(pickOf(p, "x:", "y:", "z:"), w), fmt.Sprint(pickOf(p, "x:", "y:"), w)
		k := fmt.Sprint(pickOf(p, 0, int(whole(w)), p.below(1<<w), p.below(1<<w)), ":", w)
		text := pickOf(p, "(eq x k)", "(eq k x)", "(ult x k)", "(ult k x)", "(ule x k)", "(ule k x)", "(eq x k)",
			"p", "q", "(or p q)", "T", "F", "(slt x k)", "(eq x y)", "(ult y x)", "(eq p q)", "(eq (add x y) k)", "(not p)", "(eq k k)")
		text = strings.NewReplacer("x", x, "y", y, "k", k).Replace(text)
		if p.below(2) == 0 {
			text = "(not " + text + ")"
		}
		c := made(t, s, text)
		if p.below(2) == 0 && len(list) > 0 {
			other := pickOf(p, list...)
			if p.below(2) == 0 {
				c, other = other, c
			}
			c = must[int](t)(s.Bin(api.OpAnd, c, other))
		}
		if p.below(6) == 0 {
			c = must[int](t)(s.Bin(api.OpAnd, c, c))
		}
		list = append(list, c)
	}
	return list
}

// picked: some of a list, in any order, some twice.
func picked(p *picker, list []int, most int) []int {
	some := []int{}
	for range 1 + p.below(most) {
		some = append(some, pickOf(p, list...))
	}
	return some
}

// Many small stores, held against the plain reading.
func TestLearnOfManyStores(t *testing.T) {
	p := picker(12)
	none := 0
	for round := range 20000 {
		s := newStore(t)
		conds := picked(&p, someConds(t, &p, s, 1+round%9), 5)
		names, told := somethingTold(&p, varsOf(t, s, conds))
		if p.below(2) == 0 {
			names, told = nil, nil
		}
		got, want := learnt(t, s, conds, names, told), plainLearn(s, conds, names, told)
		if got != want {
			t.Fatalf("%v of\n%swith %v %v: %s, not %s", conds, shown(s), names, told, got, want)
		}
		if strings.HasPrefix(got, "error") {
			none++
		}
	}
	if none < 1000 || none > 19000 {
		t.Fatalf("without a word: %d", none)
	}
}

// Ands that have the one below twice: they tell what the tree tells, which is more than once through, and end soon where the tree is far too great.
func TestLearnOfSharedAnds(t *testing.T) {
	for deep, least := range []int{1, 2, 4, 6, 6} {
		s := newStore(t)
		c := made(t, s, "(and (not (eq x:4 5:4)) (and (and (not (eq x:4 4:4)) (not (eq x:4 3:4))) (and (not (eq x:4 2:4)) (and (not (eq x:4 1:4)) (not (eq x:4 0:4))))))")
		for range deep {
			c = must[int](t)(s.Bin(api.OpAnd, c, c))
		}
		want := knownText([]string{"x"}, []api.Fact{plainSettle(from(4, uint64(least), 15))}, api.OK)
		is(t, "the tree", plainLearn(s, []int{c}, nil, nil), want)
		is(t, fmt.Sprint("deep ", deep), learnt(t, s, []int{c}, nil, nil), want)
	}
	s := newStore(t)
	c := made(t, s, "(and (and (not (eq x:4 2:4)) (not (eq x:4 1:4))) (and (not (eq x:4 0:4)) (and (not (eq y:4 9:4)) p)))")
	for i := range 3000 {
		c = must[int](t)(s.Bin(api.OpAnd, c, c-i%2)) // sometimes with the one below
	}
	n, f, e := Learn(s, []int{c, c}, nil, nil)
	is(t, "very deep", knownText(n, f, e), knownText([]string{"x", "y", "p"}, facts("???? 3 15", "????", "t1"), api.OK))
}

// Ands that are nested far deeper than calls could be, either way.
func TestLearnOfDeepAnds(t *testing.T) {
	s := newStore(t)
	x := made(t, s, "(not (eq x:8 0:8))")
	left, right := x, x
	for i := range 1 << 18 {
		next := x
		if i%1000 == 0 {
			next = made(t, s, fmt.Sprintf("(ule %d:8 x:8)", i/1000%200))
		}
		left = must[int](t)(s.Bin(api.OpAnd, left, next))
		right = must[int](t)(s.Bin(api.OpAnd, next, right))
	}
	for _, c := range []int{left, right} {
		n, f, e := Learn(s, []int{c}, nil, nil)
		is(t, "deep", knownText(n, f, e), "x {8 192 0 199 255}")
	}
}
