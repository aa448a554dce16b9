package mem

import (
	"fmt"
	"slices"
	"testing"

	"cadence/api"
	"cadence/simp"
)

// withRoom: the same list, with spare room that holds something.
func withRoom(list []int) []int {
	out := make([]int, len(list), len(list)+5)
	copy(out, list)
	for n := len(out); n < cap(out); n++ {
		out[:cap(out)][n] = 77
	}
	return out
}

// spoil: writes into a list, and into its spare room.
func spoil(list []int) {
	list = list[:cap(list)]
	for n := range list {
		list[n] = -99
	}
}

// TestHandedIn: New changes neither the cells nor their spare room, and keeps neither (rule 4).
func TestHandedIn(t *testing.T) {
	for _, n := range sizes() {
		m := simp.New()
		i, v := made(t, m, "i"), made(t, m, "v")
		want := numbered(t, m, n, 4).Cells()
		cells := withRoom(want)
		before := slices.Clone(cells[:cap(cells)])
		a := arrayOf(t, m, cells...)
		load(t, a, i)
		load(t, a, made(t, m, "3"))
		b := a.Clone()
		store(t, b, i, v)
		store(t, b, made(t, m, "0"), v)
		store(t, a, made(t, m, "0"), v)
		is(t, "what was handed in", cells[:cap(cells)], before)
		spoil(cells)
		want[0] = v
		is(t, "the cells", a.Cells(), want)
		is(t, "at 0", load(t, a, made(t, m, "0")), v)
	}
	m := simp.New()
	cells := withRoom([]int{made(t, m, "x"), made(t, m, "y")})
	before := fmt.Sprint(cells[:cap(cells)])
	for _, wrong := range [][]int{cells[:0], cells, append(cells, 0)} {
		New(nil, wrong...)
		New(m, wrong...)
	}
	cells[:cap(cells)][2] = 77
	is(t, "what was refused", fmt.Sprint(cells[:cap(cells)]), before)
}

// TestHandedOut: Cells is new memory at each call, spare room too (rule 4).
func TestHandedOut(t *testing.T) {
	for _, n := range sizes() {
		m := simp.New()
		a := numbered(t, m, n, 4)
		b := a.Clone()
		want := fmt.Sprint(a.Cells())
		one, two := a.Cells(), a.Cells()
		spoil(one)
		is(t, "another list", two, want)
		is(t, "the cells", a.Cells(), want)
		is(t, "the clone's cells", b.Cells(), want)
		spoil(b.Cells())
		is(t, "the clone's cells, told again", b.Cells(), want)
		is(t, "the size", a.Size(), n)
		wantText(t, "at 0", m, load(t, a, made(t, m, "0")), "e0")
		_ = append(two[:0], 5, 6, 7)
		is(t, "behind append", a.Cells(), want)
	}
}

// TestCells: they follow the Stores; a list that was handed out does not.
func TestCells(t *testing.T) {
	m := simp.New()
	a := numbered(t, m, 4, 4)
	first := a.Cells()
	told := fmt.Sprint(first)
	store(t, a, made(t, m, "1"), made(t, m, "v"))
	wantCells(t, "behind a Store", m, a, "e0", "v", "e2", "e3")
	is(t, "the list from ahead of it", first, told)
	store(t, a, made(t, m, "i"), made(t, m, "v"))
	is(t, "the list from ahead of both", first, told)
}

// TestClone: a clone and its array, each stored to behind it.
func TestClone(t *testing.T) {
	for _, n := range sizes() {
		for _, index := range []string{"i", "0", "(cat u:2 0:2)"} {
			m := simp.New()
			a := numbered(t, m, n, 4)
			store(t, a, made(t, m, "0"), made(t, m, "x"))
			i, v, w := made(t, m, index), made(t, m, "v"), made(t, m, "w")
			b := a.Clone()
			c := b.Clone()
			before := fmt.Sprint(a.Cells())
			is(t, "the clone's size", b.Size(), n)
			is(t, "the clone's cells", b.Cells(), before)
			store(t, b, i, v)
			changed := fmt.Sprint(b.Cells())
			if changed == before {
				t.Fatal("nothing was stored")
			}
			is(t, "the array, behind a Store to its clone", a.Cells(), before)
			is(t, "the clone's clone", c.Cells(), before)
			store(t, a, i, w)
			is(t, "the clone, behind a Store to its array", b.Cells(), changed)
			is(t, "the clone's clone, behind it", c.Cells(), before)
			store(t, c, i, v)
			is(t, "the same Store, the same cells", c.Cells(), changed)
			is(t, "the same Load", load(t, c, i), load(t, b, i))
		}
	}
}

// TestCloneMaker: it has the array's own maker: terms made behind it are terms of both.
func TestCloneMaker(t *testing.T) {
	m := simp.New()
	a := numbered(t, m, 2, 4)
	b := a.Clone()
	late := made(t, m, "(mul late 3)")
	before := m.Store().Len()
	is(t, "by the clone", load(t, b, late), load(t, a, late))
	if m.Store().Len() == before {
		t.Fatal("the clone's terms are made elsewhere")
	}
	if x, e := b.Load(m.Store().Len() + 1); x != 0 || e != api.ErrTerm {
		t.Fatal(x, e)
	}
	if x, e := b.Load(made(t, m, "u:3")); x != 0 || e != api.ErrSort {
		t.Fatal(x, e)
	}
}

// TestApart: arrays over one maker share nothing else, and those over two makers nothing at all.
func TestApart(t *testing.T) {
	m, o := simp.New(), simp.New()
	a, b := numbered(t, m, 4, 4), numbered(t, m, 4, 4)
	made(t, o, "(add other 1)") // so that the numbers of both stores are not alike
	c := numbered(t, o, 4, 4)
	store(t, a, made(t, m, "i"), made(t, m, "v"))
	wantCells(t, "over the same maker", m, b, each(4, "e#")...)
	wantCells(t, "over another maker", o, c, each(4, "e#")...)
	terms := m.Store().Len()
	i := made(t, o, "i")
	store(t, c, i, made(t, o, "v"))
	is(t, "the first maker's terms", m.Store().Len(), terms)
	wantCells(t, "stored over another maker", o, c, each(4, "(ite (eq (slice i 0 2) #:2) v e#)")...)
	wantCells(t, "the first array", m, a, each(4, "(ite (eq (slice i 0 2) #:2) v e#)")...)
}

// TestMixed: arrays of unlike widths over one maker; the index' width is each one's own.
func TestMixed(t *testing.T) {
	m := simp.New()
	a, b := array(t, m, "x", "y"), array(t, m, "p:8", "q:8")
	i, j := made(t, m, "i"), made(t, m, "j:8")
	wantText(t, "4 bits", m, load(t, a, i), "(ite (eq (slice i 0 1) 1:1) y x)")
	wantText(t, "8 bits", m, load(t, b, j), "(ite (eq (slice j:8 0 1) 1:1) q:8 p:8)")
	if x, e := a.Load(j); x != 0 || e != api.ErrSort {
		t.Fatal(x, e)
	}
	if x, e := b.Load(i); x != 0 || e != api.ErrSort {
		t.Fatal(x, e)
	}
	is(t, "a word of 8 bits into words of 4", a.Store(i, j), api.ErrSort)
	is(t, "a word of 4 bits into words of 8", b.Store(j, i), api.ErrSort)
}
