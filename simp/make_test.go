package simp

import (
	"fmt"
	"testing"

	"cadence/api"
	"cadence/term"
)

// likeStore: a store of its own with the same terms, by the same numbers.
func likeStore(t testing.TB, s *term.Store) *term.Store {
	t.Helper()
	other := plainStore(t)
	for i := range s.Len() {
		if made, e := other.Make(nodeOf(s, i+1)); made != i+1 || e != api.OK {
			t.Fatal(made, e)
		}
	}
	return other
}

// TestNew: P901.
func TestNew(t *testing.T) {
	m := New()
	if m == nil || m.Store() == nil || m.Store() != m.Store() {
		t.Fatal("no maker, or no store of its own")
	}
	k, e := m.Var("k", 8)
	if n := nodeOf(m.Store(), k); e != api.OK || n != (api.Node{Op: api.OpVar, W: 8, Name: "k"}) {
		t.Error(n, e)
	}
	// The store has no limit, and is the maker's: what comes to it there is a term here.
	for i := range 100000 {
		if _, e := m.Const(64, uint64(i)); e != api.OK {
			t.Fatal(i, e)
		}
	}
	j, e := m.Store().Var("j", 8)
	if e != api.OK {
		t.Fatal(e)
	}
	if sum, e := m.Bin(api.OpAdd, k, j); e != api.OK || dump(t, m.Store(), sum) != asItIs(t, "(add k j)") {
		t.Error(sum, e)
	}
}

// TestMakersShareNothing: P901, rule 5.
func TestMakersShareNothing(t *testing.T) {
	one, other := New(), New()
	if one == other || one.Store() == other.Store() {
		t.Fatal("one thing")
	}
	k, _ := one.Var("k", 8)
	one.Un(api.OpCom, k)
	if other.Store().Len() != 0 {
		t.Error(shown(other.Store()))
	}
	if _, e := other.Un(api.OpCom, k); e != api.ErrTerm {
		t.Error(e)
	}
	if _, e := other.Var("k", 4); e != api.OK {
		t.Error(e)
	}
	if _, e := other.Make(api.Node{Op: api.OpNeg, W: 4, A: 1}); e != api.OK {
		t.Error(e)
	}
	if _, e := one.Var("k", 4); e != api.ErrName {
		t.Error(e)
	}
}

// TestLeaves: truths, constants and variables are what they are.
func TestLeaves(t *testing.T) {
	m := New()
	for _, b := range []bool{true, false, true} {
		want := api.Node{Op: api.OpFalse}
		if b {
			want.Op = api.OpTrue
		}
		if n := nodeOf(m.Store(), m.Truth(b)); n != want {
			t.Error(b, n)
		}
		if made, e := m.Make(want); made != m.Truth(b) || e != api.OK {
			t.Error(made, e)
		}
	}
	for _, w := range []int{1, 8, 33, 64} {
		top := ^uint64(0) >> (64 - w)
		for _, x := range []uint64{0, 1, top, top >> 1, ^uint64(0)} {
			made, e := m.Const(w, x)
			if n := nodeOf(m.Store(), made); e != api.OK || n != (api.Node{Op: api.OpConst, W: w, Num: x & top}) {
				t.Error(w, x, n, e)
			}
			if again, e := m.Make(nodeOf(m.Store(), made)); again != made || e != api.OK {
				t.Error(again, e)
			}
		}
	}
	for _, w := range []int{0, 1, 8, 64} {
		made, e := m.Var(fmt.Sprint("v", w), w)
		if n := nodeOf(m.Store(), made); e != api.OK || n != (api.Node{Op: api.OpVar, W: w, Name: fmt.Sprint("v", w)}) {
			t.Error(w, n, e)
		}
		if again, e := m.Var(fmt.Sprint("v", w), w); again != made || e != api.OK {
			t.Error(again, e)
		}
		if again, e := m.Make(nodeOf(m.Store(), made)); again != made || e != api.OK {
			t.Error(again, e)
		}
	}
}

// someParts: a maker with terms of several sorts.
func someParts(t testing.TB) *Maker {
	t.Helper()
	m := New()
	for _, text := range []string{"k", "j", "c", "cd", "(add k j)", "(ult k j)", "x:64", "y:3", "(not c)", "(add y:3 1:3)", "(cat k y:3)", "z:1", "5", "T"} {
		read(t, m, m.Store(), text)
	}
	return m
}

// TestRefusedNodes: each error of term.Make, in its order: nodes that are wrong in one way or in several.
func TestRefusedNodes(t *testing.T) {
	m := someParts(t)
	same := likeStore(t, m.Store())
	part := func(p *picker) int {
		if p.below(6) == 0 {
			return pick(p, append(noTerms(m.Store()), 1<<40)...)
		}
		return p.below(same.Len() + 2)
	}
	p := picker(77)
	told := map[api.Errno]int{}
	for range 150000 {
		n := api.Node{Op: p.below(36) - 1}
		n.W = pick(&p, 0, 1, 3, 4, 8, 11, 64, pick(&p, -1, 65, 1<<62, -1<<63))
		n.A, n.B, n.C = part(&p), part(&p), part(&p)
		if p.below(2) == 0 {
			n.C = 0
		}
		if p.below(2) == 0 {
			n.B = 0
		}
		if p.below(4) == 0 {
			n.A = 0
		}
		if p.below(3) == 0 {
			n.Num = pick(&p, 1, 7, 8, 63, 64, 1<<63, ^uint64(0))
		}
		if p.below(6) == 0 {
			n.Name = pick(&p, "k", "c", "1", "", "n", "a b", "abcdefghijklmnopqrstuvwxy")
		}
		probe := likeStore(t, same)
		_, want := probe.Make(n)
		before := m.Store().Len()
		made, e := m.Make(n)
		if e != want {
			t.Fatalf("%+v: %v, not %v", n, e, want)
		}
		if e != api.OK && (made != 0 || m.Store().Len() != before) {
			t.Fatalf("%+v: refused with %v, and %d made, %d terms more", n, e, made, m.Store().Len()-before)
		}
		told[e]++
		if e == api.OK { // the next ones are asked of the same terms
			m = someParts(t)
		}
	}
	for _, e := range []api.Errno{api.OK, api.ErrOp, api.ErrWidth, api.ErrTerm, api.ErrArg, api.ErrSort, api.ErrName} {
		if told[e] < 100 {
			t.Errorf("%v only %d times", e, told[e])
		}
	}
}

// TestRefusals: one by one.
func TestRefusals(t *testing.T) {
	m := New()
	k, _ := m.Var("k", 8)
	c, _ := m.Var("c", 0)
	y, _ := m.Var("y", 3)
	x, _ := m.Var("x", 64)
	none := 1 << 40
	for _, r := range []struct {
		n api.Node
		e api.Errno
	}{
		{api.Node{}, api.ErrOp},
		{api.Node{Op: -1, W: -1}, api.ErrOp},
		{api.Node{Op: 34, W: 65, A: none}, api.ErrOp},
		{api.Node{Op: api.OpAdd, W: 65, A: none, B: k}, api.ErrWidth},
		{api.Node{Op: api.OpNot, W: -1, A: k}, api.ErrWidth},
		{api.Node{Op: api.OpAdd, W: 8, A: k, B: none, C: k}, api.ErrTerm},
		{api.Node{Op: api.OpAdd, W: 8, A: k}, api.ErrTerm},
		{api.Node{Op: api.OpIte, W: 8, A: c, B: k, C: -1}, api.ErrTerm},
		{api.Node{Op: api.OpNot, A: k, B: none}, api.ErrArg},
		{api.Node{Op: api.OpNot, A: c, C: k}, api.ErrArg},
		{api.Node{Op: api.OpAdd, W: 8, A: k, B: c, Num: 1}, api.ErrArg},
		{api.Node{Op: api.OpAdd, W: 8, A: k, B: c, Name: "k"}, api.ErrArg},
		{api.Node{Op: api.OpAdd, W: 7, A: k, B: c}, api.ErrSort},
		{api.Node{Op: api.OpNot, W: 3, A: k}, api.ErrSort},
		{api.Node{Op: api.OpEq, A: k, B: y}, api.ErrSort},
		{api.Node{Op: api.OpUlt, A: c, B: c}, api.ErrSort},
		{api.Node{Op: api.OpIte, W: 8, A: k, B: k, C: k}, api.ErrSort},
		{api.Node{Op: api.OpAdd, W: 7, A: k, B: k}, api.ErrWidth},
		{api.Node{Op: api.OpAdd, A: k, B: k}, api.ErrWidth},
		{api.Node{Op: api.OpEq, W: 8, A: k, B: k}, api.ErrWidth},
		{api.Node{Op: api.OpShl, W: 3, A: y, B: y}, api.ErrWidth},
		{api.Node{Op: api.OpCat, A: x, B: k}, api.ErrWidth},
		{api.Node{Op: api.OpSlice, W: 4, A: k, Num: 5}, api.ErrWidth},
		{api.Node{Op: api.OpSlice, W: 4, A: k, Num: ^uint64(0)}, api.ErrWidth},
		{api.Node{Op: api.OpSlice, A: k}, api.ErrWidth},
		{api.Node{Op: api.OpZext, W: 7, A: k}, api.ErrWidth},
		{api.Node{Op: api.OpConst, W: 4, Num: 16}, api.ErrWidth},
		{api.Node{Op: api.OpConst}, api.ErrWidth},
		{api.Node{Op: api.OpVar, W: 8, Name: "1"}, api.ErrName},
		{api.Node{Op: api.OpVar, W: 4, Name: "k"}, api.ErrName},
		{api.Node{Op: api.OpTrue, A: 1}, api.ErrArg},
		{api.Node{Op: api.OpFalse, W: 1}, api.ErrWidth},
	} {
		if made, e := m.Make(r.n); made != 0 || e != r.e {
			t.Errorf("%+v: %d, %v, not %v", r.n, made, e, r.e)
		}
	}
	if m.Store().Len() != 4 {
		t.Error(shown(m.Store()))
	}
}

// TestRefusedByRulesToo: a node that a rule would fit, if it were right.
func TestRefusedByRulesToo(t *testing.T) {
	m := New()
	k, _ := m.Var("k", 8)
	c, _ := m.Var("c", 0)
	zero, _ := m.Const(8, 0)
	other, _ := m.Const(4, 0)
	f := m.Truth(false)
	for _, n := range []api.Node{
		{Op: api.OpAnd, A: f, B: k}, {Op: api.OpEq, A: c, B: k}, {Op: api.OpIte, A: f, B: k, C: c}, {Op: api.OpIte, W: 8, A: f, B: k, C: other},
		{Op: api.OpAdd, W: 8, A: k, B: other}, {Op: api.OpEq, A: zero, B: other}, {Op: api.OpBand, W: 4, A: k, B: other},
	} {
		if made, e := m.Make(n); made != 0 || e != api.ErrSort {
			t.Errorf("%+v: %d, %v", n, made, e)
		}
	}
	for _, n := range []api.Node{
		{Op: api.OpSub, W: 4, A: k, B: k}, {Op: api.OpAnd, W: 1, A: f, B: c}, {Op: api.OpIte, W: 8, A: c, B: c, C: c}, {Op: api.OpBand, W: 9, A: k, B: zero},
		{Op: api.OpSlice, W: 8, A: zero, Num: 1}, {Op: api.OpSext, W: 7, A: zero}, {Op: api.OpUle, W: 8, A: k, B: k},
	} {
		if made, e := m.Make(n); made != 0 || e != api.ErrWidth {
			t.Errorf("%+v: %d, %v", n, made, e)
		}
	}
	if made, e := m.Make(api.Node{Op: api.OpAnd, A: f, B: 99}); made != 0 || e != api.ErrTerm {
		t.Error(made, e)
	}
	if made, e := m.Make(api.Node{Op: api.OpNot, A: f, B: f}); made != 0 || e != api.ErrArg {
		t.Error(made, e)
	}
}

// madeBy: what a call answers, as Dump; or its error.
func madeBy(t testing.TB, s *term.Store, made int, e api.Errno) string {
	t.Helper()
	if e != api.OK {
		return fmt.Sprint(made, e)
	}
	return dump(t, s, made)
}

// TestOthers: Un, Bin, Ite, Slice and Ext are Make of the node that term's calls mean, errors too.
func TestOthers(t *testing.T) {
	p := picker(5)
	told := map[api.Errno]int{}
	for range 15000 {
		m := someParts(t)
		raw := likeStore(t, m.Store())
		part := func() int {
			if p.below(12) == 0 {
				return pick(&p, append(noTerms(m.Store()), 1<<40)...)
			}
			return 1 + p.below(raw.Len()-1)
		}
		op, a, b, c := p.below(36)-1, part(), part(), part()
		from, n := pick(&p, 0, 1, 7, 8, -1, 1<<62, p.below(64)), pick(&p, 1, 2, 8, 0, -1, 65, p.below(64))
		var made, want int
		var e, bad api.Errno
		switch p.below(5) {
		case 0:
			op = pick(&p, op, api.OpNot, api.OpCom, api.OpNeg)
			made, e = m.Un(op, a)
			want, bad = raw.Un(op, a)
		case 1:
			made, e = m.Bin(op, a, b)
			want, bad = raw.Bin(op, a, b)
		case 2:
			made, e = m.Ite(a, b, c)
			want, bad = raw.Ite(a, b, c)
		case 3:
			made, e = m.Slice(a, from, n)
			want, bad = raw.Slice(a, from, n)
		default:
			op = pick(&p, op, api.OpZext, api.OpSext)
			made, e = m.Ext(op, a, n)
			want, bad = raw.Ext(op, a, n)
		}
		told[e]++
		if bad == api.OK {
			want, bad = m.Make(nodeOf(raw, want))
		}
		if made != want || e != bad {
			t.Fatalf("op %d of %d %d %d, %d %d: %d %v, not %d %v", op, a, b, c, from, n, made, e, want, bad)
		}
	}
	for _, e := range []api.Errno{api.OK, api.ErrOp, api.ErrWidth, api.ErrTerm, api.ErrSort} {
		if told[e] < 100 {
			t.Errorf("%v only %d times", e, told[e])
		}
	}
}

// TestOthersOneByOne: the edges that P703 and P902 name.
func TestOthersOneByOne(t *testing.T) {
	m := New()
	k, _ := m.Var("k", 8)
	c, _ := m.Var("c", 0)
	x, _ := m.Var("x", 64)
	y, _ := m.Var("y", 3)
	said := func(made int, e api.Errno) string { return madeBy(t, m.Store(), made, e) }
	refused := func(e api.Errno) string { return fmt.Sprint(0, e) }
	for _, r := range []struct{ what, got, want string }{
		{"Un add", said(m.Un(api.OpAdd, k)), refused(api.ErrOp)},
		{"Un add of none", said(m.Un(api.OpAdd, 99)), refused(api.ErrOp)},
		{"Un zext", said(m.Un(api.OpZext, k)), refused(api.ErrOp)},
		{"Un not of a word", said(m.Un(api.OpNot, k)), refused(api.ErrSort)},
		{"Un com of a truth", said(m.Un(api.OpCom, c)), refused(api.ErrSort)},
		{"Un of none", said(m.Un(api.OpNeg, 0)), refused(api.ErrTerm)},
		{"Un", said(m.Un(api.OpNeg, k)), asItIs(t, "(neg k)")},
		{"Bin not", said(m.Bin(api.OpNot, c, c)), refused(api.ErrOp)},
		{"Bin ite", said(m.Bin(api.OpIte, c, c)), refused(api.ErrOp)},
		{"Bin const", said(m.Bin(api.OpConst, k, k)), refused(api.ErrOp)},
		{"Bin slice", said(m.Bin(api.OpSlice, k, k)), refused(api.ErrOp)},
		{"Bin 34 of none", said(m.Bin(34, 0, -1)), refused(api.ErrOp)},
		{"Bin of none", said(m.Bin(api.OpAdd, k, -5)), refused(api.ErrTerm)},
		{"Bin of unlike sorts", said(m.Bin(api.OpAdd, k, c)), refused(api.ErrSort)},
		{"Bin cat too wide", said(m.Bin(api.OpCat, x, k)), refused(api.ErrWidth)},
		{"Bin shl of no shift width", said(m.Bin(api.OpShl, y, y)), refused(api.ErrWidth)},
		{"Bin", said(m.Bin(api.OpCat, k, y)), asItIs(t, "(cat k y:3)")},
		{"Bin ult", said(m.Bin(api.OpUlt, k, k)), asItIs(t, "F")},
		{"Ite of none", said(m.Ite(c, k, 99)), refused(api.ErrTerm)},
		{"Ite of unlike sorts", said(m.Ite(c, k, c)), refused(api.ErrSort)},
		{"Ite of a word", said(m.Ite(k, k, k)), refused(api.ErrSort)},
		{"Ite", said(m.Ite(c, k, k)), asItIs(t, "k")},
		{"Slice beyond", said(m.Slice(k, 6, 4)), refused(api.ErrWidth)},
		{"Slice below 0", said(m.Slice(k, -1, 1)), refused(api.ErrWidth)},
		{"Slice of a truth below 0", said(m.Slice(c, -1, 1)), refused(api.ErrSort)},
		{"Slice of none below 0", said(m.Slice(0, -1, 1)), refused(api.ErrTerm)},
		{"Slice of no bit", said(m.Slice(k, 0, 0)), refused(api.ErrWidth)},
		{"Slice of -1 bits of none", said(m.Slice(0, 0, -1)), refused(api.ErrWidth)},
		{"Slice", said(m.Slice(k, 4, 4)), asItIs(t, "(slice k 4 4)")},
		{"Ext add", said(m.Ext(api.OpAdd, k, 16)), refused(api.ErrOp)},
		{"Ext to fewer", said(m.Ext(api.OpZext, k, 7)), refused(api.ErrWidth)},
		{"Ext to 65", said(m.Ext(api.OpZext, 0, 65)), refused(api.ErrWidth)},
		{"Ext of a truth", said(m.Ext(api.OpSext, c, 8)), refused(api.ErrSort)},
		{"Ext", said(m.Ext(api.OpSext, k, 64)), asItIs(t, "(sext k 64)")},
		{"Const of 0 bits", said(m.Const(0, 0)), refused(api.ErrWidth)},
		{"Const of 65 bits", said(m.Const(65, 1)), refused(api.ErrWidth)},
		{"Const", said(m.Const(4, 0x35)), asItIs(t, "5:4")},
		{"Var of another width", said(m.Var("k", 9)), refused(api.ErrName)},
		{"Var of another sort", said(m.Var("c", 1)), refused(api.ErrName)},
		{"Var without a name", said(m.Var("", 8)), refused(api.ErrName)},
		{"Var of -1 bits", said(m.Var("", -1)), refused(api.ErrWidth)},
		{"Var of 65 bits", said(m.Var("z", 65)), refused(api.ErrWidth)},
		{"Var again", said(m.Var("k", 8)), asItIs(t, "k")},
	} {
		if r.got != r.want {
			t.Errorf("%s: %s, not %s", r.what, r.got, r.want)
		}
	}
}

// TestNumbersDoNotMatter: terms that came to the store in another order, among others, become the same.
func TestNumbersDoNotMatter(t *testing.T) {
	texts := []string{"(add j k)", "(add k j)", "(bxor (com k) j)", "(and c cd)", "(and cd c)", "(xor cd (not c))", "(eq k j)", "(eq j k)", "(mul j 3)", "(ult 5 k)",
		"(eq (cat j k) 0x1234:16)", "(ite c k j)", "(sub (add j k) j)", "(band (band j 12) 10)"}
	for _, text := range texts {
		want := simple(t, text)
		m := New()
		for _, other := range []string{"(com j)", "cd", "10", "12", "j", "(not c)", "(add 1 2)", "0x12", "(raw (add 3 j))", "(raw (not (not c)))", "k"} {
			read(t, m, m.Store(), other)
		}
		if got := dump(t, m.Store(), read(t, m, m.Store(), text)); got != want {
			t.Errorf("%s: among others\n%snot\n%s", text, got, want)
		}
		again := read(t, m, m.Store(), text)
		if got := dump(t, m.Store(), again); got != want {
			t.Errorf("%s: a second time\n%snot\n%s", text, got, want)
		}
	}
}

// TestClosedIsTold: P906.
func TestClosedIsTold(t *testing.T) {
	p := picker(3)
	plain := newPlainMaker()
	for range 3000 {
		b := &both{t: t, p: &p, m: New(), plain: plain, trees: map[int]*tree{}}
		var terms []int
		for range 8 {
			w := pick(&p, 1, 4, 8, 5, 64)
			c, _ := b.m.Const(w, someWord(&p, w))
			terms = append(terms, c)
		}
		terms = append(terms, b.m.Truth(true), b.m.Truth(false))
		for range 5 {
			if n, right := b.someNode(terms); right {
				made := b.make(n)
				if op := nodeOf(b.m.Store(), made).Op; op != api.OpConst && op != api.OpTrue && op != api.OpFalse {
					t.Fatalf("%+v became\n%s", n, dump(t, b.m.Store(), made))
				}
				terms = append(terms, made)
			}
		}
	}
}

// TestOfItself: P906: eq, ult, sub and bxor of a term with itself.
func TestOfItself(t *testing.T) {
	for _, w := range []int{1, 3, 8, 64} {
		b := newBoth(t, picker(w))
		for _, x := range b.all(partsOfWidth(w)) {
			zero, _ := b.m.Const(w, 0)
			for op, want := range map[int]int{api.OpEq: b.m.Truth(true), api.OpUlt: b.m.Truth(false), api.OpSlt: b.m.Truth(false), api.OpSub: zero, api.OpBxor: zero} {
				if made, e := b.m.Bin(op, x, x); made != want || e != api.OK {
					t.Errorf("%s of itself: %d, %v of\n%s", words[op], made, e, dump(t, b.m.Store(), x))
				}
			}
		}
	}
}
