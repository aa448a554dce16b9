package simp

import (
	"fmt"
	"slices"
	"testing"

	"cadence/api"
	"cadence/eval"
	"cadence/term"
)

// wild: a store of very mixed terms that nobody made simple.
func wild(t testing.TB, p *picker, calls int) *term.Store {
	t.Helper()
	b := &both{t: t, p: p, m: New(), trees: map[int]*tree{}}
	terms := b.leaves()
	for range calls {
		if n, right := b.someNode(terms); right {
			made, e := b.m.Store().Make(n)
			if e != api.OK {
				t.Fatal(e)
			}
			terms = append(terms, made)
		}
	}
	return b.m.Store()
}

// someRoots: of a store, in any order, some twice, mostly late ones.
func someRoots(p *picker, s *term.Store) []int {
	var roots []int
	for range p.below(6) {
		roots = append(roots, s.Len()-p.below(1+p.below(s.Len())))
	}
	return roots
}

// stepByStep: P903 in its words, by a maker's Make.
func stepByStep(t testing.TB, s *term.Store, roots []int) string {
	t.Helper()
	m := New()
	order, e := s.Order(roots...)
	if e != api.OK {
		t.Fatal(e)
	}
	became := map[int]int{}
	for _, t1 := range order {
		n := nodeOf(s, t1)
		n.A, n.B, n.C = became[n.A], became[n.B], became[n.C]
		if became[t1], e = m.Make(n); e != api.OK {
			t.Fatalf("%+v: %v", n, e)
		}
	}
	var list []int
	for _, root := range roots {
		list = append(list, became[root])
	}
	return dump(t, m.Store(), list...)
}

// TestSimplifyGrown: P903, P904, P905, of stores of very mixed terms.
func TestSimplifyGrown(t *testing.T) {
	plain := newPlainMaker()
	for seed := range 120 {
		p := picker(seed + 1)
		s := wild(t, &p, 150)
		was := shown(s)
		roots := someRoots(&p, s)
		m, made, e := Simplify(s, roots...)
		if e != api.OK || len(made) != len(roots) {
			t.Fatal(made, e)
		}
		if shown(s) != was {
			t.Fatal("the store has changed")
		}
		if m.Store() == s {
			t.Fatal("no store of its own")
		}
		text := dump(t, m.Store(), made...)
		if want := stepByStep(t, s, roots); text != want {
			t.Fatalf("%s, not\n%s", text, want)
		}
		for i, root := range roots {
			wantMeans(t, &p, s, root, m.Store(), made[i])
		}
		wantOnceIsEnough(t, plain, m, made, text)
	}
}

// wantOnceIsEnough: P905: made simple again it is the same, and no term of it fits a rule.
func wantOnceIsEnough(t *testing.T, plain *plainMaker, m *Maker, made []int, text string) {
	t.Helper()
	again, list, e := Simplify(m.Store(), made...)
	if e != api.OK || dump(t, again.Store(), list...) != text {
		t.Fatalf("%v: a second time\n%snot\n%s", e, dump(t, again.Store(), list...), text)
	}
	order, _ := m.Store().Order(made...)
	for _, x := range order {
		if r, _ := plain.ruleOf(treeOf(m.Store(), x)); r != nil {
			t.Fatalf("%s fits\n%s", r.name, dump(t, m.Store(), x))
		}
	}
}

// TestSimplifyRoots: of none, of one twice, out of order, of leaves.
func TestSimplifyRoots(t *testing.T) {
	s := plainStore(t)
	one := read(t, s, s, "(add 0 k)")
	k := read(t, s, s, "k")
	other := read(t, s, s, "(com (com (add 0 k)))")
	last := read(t, s, s, "(ule j k)")
	for _, r := range []struct {
		roots []int
		want  string
	}{
		{nil, "roots\n"},
		{[]int{}, "roots\n"},
		{[]int{k}, "1 var k 8\nroots 1\n"},
		{[]int{one, one}, "1 var k 8\nroots 1 1\n"},
		{[]int{other, k, one}, "1 var k 8\nroots 1 1 1\n"},
		{[]int{last, one}, "1 var k 8\n2 var j 8\n3 ult 1 2\n4 not 3\nroots 4 1\n"},
		{[]int{one, last, one}, "1 var k 8\n2 var j 8\n3 ult 1 2\n4 not 3\nroots 1 4 1\n"},
	} {
		m, made, e := Simplify(s, r.roots...)
		if e != api.OK || m == nil || len(made) != len(r.roots) {
			t.Fatal(r.roots, made, e)
		}
		if text := dump(t, m.Store(), made...); text != r.want {
			t.Errorf("%v: %q, not %q", r.roots, text, r.want)
		}
	}
	// A maker without a term can be gone on with.
	m, _, _ := Simplify(s)
	if x, e := m.Var("k", 4); e != api.OK || m.Store().Len() != 1 {
		t.Error(x, e)
	}
}

// TestSimplifyRefuses: numbers that are no terms, and what is no store.
func TestSimplifyRefuses(t *testing.T) {
	s := plainStore(t)
	read(t, s, s, "(add 0 k)")
	empty := plainStore(t)
	for _, none := range append(noTerms(s), 9, 1<<40) {
		for _, roots := range [][]int{{none}, {1, none}, {none, 1}, {1, 2, none, 3}} {
			if m, made, e := Simplify(s, roots...); m != nil || len(made) > 0 || e != api.ErrTerm {
				t.Error(roots, m, made, e)
			}
		}
	}
	if m, made, e := Simplify(empty, 1); m != nil || len(made) > 0 || e != api.ErrTerm {
		t.Error(m, made, e)
	}
	if m, made, e := Simplify(empty); m == nil || len(made) > 0 || e != api.OK {
		t.Error(m, made, e)
	}
	for _, roots := range [][]int{nil, {1}, {0}} {
		if m, made, e := Simplify(nil, roots...); m != nil || len(made) > 0 || e != api.ErrNil {
			t.Error(roots, m, made, e)
		}
	}
	if m, made, e := Simplify(new(term.Store)); m == nil || len(made) > 0 || e != api.OK {
		t.Error(m, made, e)
	}
}

// TestSimplifyFullStore: a store's limit is its own.
func TestSimplifyFullStore(t *testing.T) {
	s, _ := term.New(3)
	x := read(t, s, s, "(sub k j)")
	m, made, e := Simplify(s, x)
	if e != api.OK {
		t.Fatal(e)
	}
	if _, e := m.Bin(api.OpMul, made[0], made[0]); e != api.OK || s.Len() != 3 {
		t.Error(e, s.Len())
	}
}

// TestSimplifySharedParts: a term of 100 levels of which each uses the last one twice.
func TestSimplifySharedParts(t *testing.T) {
	s := plainStore(t)
	x := read(t, s, s, "(add 0 k)")
	for i := range 100 {
		op := []int{api.OpAdd, api.OpMul, api.OpDiv}[i%3]
		x, _ = s.Bin(op, x, x)
	}
	m, made, e := Simplify(s, x)
	if e != api.OK {
		t.Fatal(e)
	}
	if terms, _, depth, _ := eval.Size(m.Store(), made[0]); terms != 101 || depth != 101 {
		t.Error(terms, depth)
	}
	p := picker(1)
	wantMeans(t, &p, s, x, m.Store(), made[0])
}

// deep: a term of so many levels.
func deep(t testing.TB, s *term.Store, levels int, level func(i, x int) (int, api.Errno)) int {
	t.Helper()
	x := read(t, s, s, "k")
	var e api.Errno
	for i := range levels {
		if x, e = level(i, x); e != api.OK {
			t.Fatal(e)
		}
	}
	return x
}

// TestSimplifyVeryDeep: terms deeper than calls could be nested.
func TestSimplifyVeryDeep(t *testing.T) {
	const levels = 400000
	s := plainStore(t)
	j, one, ones := read(t, s, s, "j"), read(t, s, s, "1"), read(t, s, s, "255")
	sum := deep(t, s, levels, func(i, x int) (int, api.Errno) {
		return s.Bin([]int{api.OpAdd, api.OpBxor}[i%2], x, j)
	})
	turned := deep(t, s, levels, func(i, x int) (int, api.Errno) {
		if i%2 == 0 {
			return s.Bin(api.OpAdd, x, one)
		}
		return s.Un(api.OpCom, x)
	})
	gathered := deep(t, s, levels, func(i, x int) (int, api.Errno) { return s.Bin(api.OpAdd, ones, x) })
	equal, _ := s.Bin(api.OpEq, turned, ones)
	m, made, e := Simplify(s, sum, equal, gathered)
	if e != api.OK {
		t.Fatal(e)
	}
	if _, _, depth, _ := eval.Size(m.Store(), made[0]); depth != levels+1 {
		t.Error(depth)
	}
	// com (x + 1) is -x - 2, and so twice is x; 200000 is even. 400000 times 255 is 128 modulo 256.
	if text := dump(t, m.Store(), made[1:]...); text != "1 var k 8\n2 const 8 255\n3 eq 1 2\n4 const 8 128\n5 add 1 4\nroots 3 5\n" {
		t.Errorf("%q", text)
	}
	_, again, e := Simplify(m.Store(), made...)
	if e != api.OK || len(again) != 3 {
		t.Error(again, e)
	}
}

// TestMakeOverVeryDeep: rules that go down through a maker's store, as far as it goes.
func TestMakeOverVeryDeep(t *testing.T) {
	const levels = 400000
	m := New()
	s := m.Store()
	c, d := read(t, m, s, "c"), read(t, m, s, "cd")
	k, j := read(t, m, s, "k"), read(t, m, s, "j")
	nots, sames, negs := c, k, k
	for range levels {
		nots, _ = s.Un(api.OpNot, nots)
		sames, _ = s.Ite(d, sames, j)
		negs, _ = s.Un(api.OpNeg, negs)
	}
	for _, r := range []struct {
		node api.Node
		want string
	}{
		{api.Node{Op: api.OpXor, A: nots, B: d}, "(xor c cd)"},
		{api.Node{Op: api.OpXor, A: d, B: nots}, "(xor cd c)"},
		{api.Node{Op: api.OpIte, W: 8, A: nots, B: k, C: j}, "(ite c k j)"},
		{api.Node{Op: api.OpIte, W: 8, A: d, B: sames, C: j}, "(ite cd k j)"},
		{api.Node{Op: api.OpAdd, W: 8, A: j, B: negs}, "(add j k)"},
		{api.Node{Op: api.OpEq, A: negs, B: read(t, m, s, "1")}, "(eq k 1)"},
	} {
		made, e := m.Make(r.node)
		if e != api.OK || dump(t, s, made) != asItIs(t, r.want) {
			t.Errorf("%+v: %d, %v, not %s", r.node, made, e, r.want)
		}
	}
}

// TestHandedOutIsTheCallers: rule 4: the list of what the roots became is new memory; the roots stay as they are.
func TestHandedOutIsTheCallers(t *testing.T) {
	s := plainStore(t)
	a, b := read(t, s, s, "(add 0 k)"), read(t, s, s, "(com j)")
	room := []int{a, b, 77, 78}
	m, made, e := Simplify(s, room[:2]...)
	if e != api.OK {
		t.Fatal(e)
	}
	text := dump(t, m.Store(), made...)
	kept := slices.Clone(made)
	for i := range made {
		made[i] = -5
	}
	made = append(made, -6, -7, -8)
	clear(made[:cap(made)])
	if !slices.Equal(room, []int{a, b, 77, 78}) {
		t.Error(room)
	}
	if got := dump(t, m.Store(), kept...); got != text {
		t.Error(got)
	}
	clear(room)
	if other, list, e := Simplify(s, a, b); e != api.OK || dump(t, other.Store(), list...) != text {
		t.Error(list, e)
	}
	if x, e := m.Un(api.OpCom, kept[1]); e != api.OK || dump(t, m.Store(), x) != asItIs(t, "j") {
		t.Error(x, e)
	}
}

// TestSimplifiedMakersShareNothing: with the store, and with each other.
func TestSimplifiedMakersShareNothing(t *testing.T) {
	s := plainStore(t)
	x := read(t, s, s, "(add 0 (com k))")
	one, made, _ := Simplify(s, x)
	other, _, _ := Simplify(s, x)
	if one == other || one.Store() == other.Store() {
		t.Fatal("one thing")
	}
	was, wasOther := shown(s), shown(other.Store())
	for i := range 50 {
		c, _ := one.Const(8, uint64(i))
		one.Bin(api.OpMul, made[0], c)
		one.Var(fmt.Sprint("new", i), 8)
	}
	if shown(s) != was || shown(other.Store()) != wasOther {
		t.Error("something came to another store")
	}
	s.Var("later", 4)
	if _, e := one.Var("later", 8); e != api.OK {
		t.Error(e)
	}
}

// TestSameCallsSameAnswers: rule 5: numbers too.
func TestSameCallsSameAnswers(t *testing.T) {
	for seed := range 10 {
		p, q := picker(seed+1), picker(seed+1)
		s := wild(t, &p, 150)
		roots := someRoots(&p, s)
		other := wild(t, &q, 150)
		m, made, _ := Simplify(s, roots...)
		n, again, _ := Simplify(other, roots...)
		if !slices.Equal(made, again) || shown(m.Store()) != shown(n.Store()) {
			t.Error(made, again)
		}
	}
}
