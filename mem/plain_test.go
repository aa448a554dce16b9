package mem

import (
	"fmt"
	"testing"

	"cadence/api"
	"cadence/simp"
)

// The chapter's words read once more, in the plainest form, to hold the terms' texts against.

// plainArray: cells over a maker.
type plainArray struct {
	m     *simp.Maker
	cells []int
}

func (a *plainArray) width() int {
	n, _ := a.m.Store().Node(a.cells[0])
	return n.W
}

// k: the number with 2 to the k-th = N, but no more than W.
func (a *plainArray) k() int { return min(logOf(len(a.cells)), a.width()) }

// constant: is a term one, and of which number?
func (a *plainArray) constant(t int) (int, bool) {
	n, _ := a.m.Store().Node(t)
	return int(n.Num), n.Op == api.OpConst
}

// choice: the cells from on, 2 to the bits-th of them, told from the highest bit down.
func (a *plainArray) choice(i, from, bits int) int {
	if bits == 0 {
		return a.cells[from]
	}
	piece, _ := a.m.Slice(i, bits-1, 1)
	one, _ := a.m.Const(1, 1)
	bit, _ := a.m.Bin(api.OpEq, piece, one)
	made, _ := a.m.Ite(bit, a.choice(i, from+1<<(bits-1), bits-1), a.choice(i, from, bits-1))
	return made
}

func (a *plainArray) load(i int) int {
	if a.k() == 0 {
		return a.cells[0]
	}
	j, _ := a.m.Slice(i, 0, a.k())
	if n, fixed := a.constant(j); fixed {
		return a.cells[n]
	}
	return a.choice(i, 0, a.k())
}

func (a *plainArray) store(i, v int) {
	if a.k() == 0 {
		a.cells[0] = v
		return
	}
	j, _ := a.m.Slice(i, 0, a.k())
	if n, fixed := a.constant(j); fixed {
		a.cells[n] = v
		return
	}
	for n := 1<<a.k() - 1; n >= 0; n-- {
		number, _ := a.m.Const(a.k(), uint64(n))
		there, _ := a.m.Bin(api.OpEq, j, number)
		a.cells[n], _ = a.m.Ite(there, v, a.cells[n])
	}
}

// plainly goes through a script; what came of it are all terms of the list, and then all cells.
func plainly(t testing.TB, s *script) (*simp.Maker, []int) {
	t.Helper()
	m := simp.New()
	terms := poolTerms(t, m, s.pool)
	first := &plainArray{m: m}
	for _, c := range s.cells {
		first.cells = append(first.cells, terms[c])
	}
	arrays := []*plainArray{first}
	for _, x := range s.steps {
		a := arrays[x.array]
		switch x.kind {
		case aLoad:
			terms = append(terms, a.load(terms[x.i]))
		case aStore:
			a.store(terms[x.i], terms[x.v])
		default:
			arrays = append(arrays, &plainArray{m: m, cells: append([]int{}, a.cells...)})
		}
	}
	for _, a := range arrays {
		terms = append(terms, a.cells...)
	}
	return m, terms
}

// all: the terms of a script's list, and then all cells.
func (r *played) all() []int {
	terms := append([]int{}, r.terms...)
	for _, a := range r.arrays {
		terms = append(terms, a.Cells()...)
	}
	return terms
}

// TestPlainly: over many scripts the terms are the chapter's, told by their texts.
func TestPlainly(t *testing.T) {
	p := picker(2102)
	for range 6000 {
		s := someScript(&p)
		r := play(t, s)
		m, want := plainly(t, s)
		if got, want := dump(t, r.maker.Store(), r.all()...), dump(t, m.Store(), want...); got != want {
			t.Fatalf("%s\n%snot\n%s", s.shown(), got, want)
		}
	}
}

// TestAgain: the same script answers the same numbers of terms (rule 5).
func TestAgain(t *testing.T) {
	p := picker(5)
	for range 500 {
		s := someScript(&p)
		one, two := play(t, s), play(t, s)
		is(t, s.shown(), one.all(), two.all())
		is(t, s.shown(), fmt.Sprint(one.maker.Store().Len()), two.maker.Store().Len())
	}
}

// TestRefusedBetween: calls that are refused, or that only tell, between a script's steps change nothing of what comes of it.
func TestRefusedBetween(t *testing.T) {
	refused := func(a *Array, i, v int) {
		a.Load(-1)
		a.Store(0, v)
		a.Store(i, 1<<40)
	}
	telling := func(a *Array, i, v int) {
		a.Size()
		clear(a.Cells())
		store(t, a.Clone(), i, v)
		load(t, a, i)
	}
	p := picker(77)
	for range 500 {
		s := someScript(&p)
		want := play(t, s)
		got := play(t, s, refused)
		is(t, s.shown(), got.all(), want.all())
		got = play(t, s, telling)
		is(t, s.shown(), dump(t, got.maker.Store(), got.all()...), dump(t, want.maker.Store(), want.all()...))
	}
}
