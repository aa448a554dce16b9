package mem

import (
	"fmt"
	"testing"

	"cadence/api"
	"cadence/simp"
)

// refused: New answers an error, no array, and makes no term.
func refused(t testing.TB, what string, m *simp.Maker, want api.Errno, cells ...int) {
	t.Helper()
	before := 0
	if m != nil {
		before = m.Store().Len()
	}
	if a, e := New(m, cells...); a != nil || e != want {
		t.Fatalf("%s: %v, %v, not %v", what, a, e, want)
	}
	if m != nil && m.Store().Len() != before {
		t.Fatalf("%s: refused, and %d terms more", what, m.Store().Len()-before)
	}
}

// times: a list of one term, so often.
func times(n, cell int) []int {
	list := make([]int, n)
	for i := range list {
		list[i] = cell
	}
	return list
}

// TestNew: each number of cells, each width.
func TestNew(t *testing.T) {
	for _, n := range sizes() {
		for w := 1; w <= api.MaxWidth; w++ {
			m := simp.New()
			a := numbered(t, m, n, w)
			wantCells(t, fmt.Sprint(n, " words of ", w, " bits"), m, a, each(n, fmt.Sprintf("e#:%d", w))...)
		}
	}
}

// TestNewLikeCells: cells may be one term, constants, and what no rule has made simple.
func TestNewLikeCells(t *testing.T) {
	m := simp.New()
	v := made(t, m, "v")
	is(t, "one term", arrayOf(t, m, v, v, v, v).Cells(), []int{v, v, v, v})
	k := raw(t, m, "(add 1 2)")
	a := arrayOf(t, m, k, v)
	is(t, "as it is", a.Cells(), []int{k, v})
	is(t, "loaded as it is", load(t, a, made(t, m, "2")), k)
}

// TestNewPower: numbers of cells that are none of 1, 2, 4, .. 256.
func TestNewPower(t *testing.T) {
	m := simp.New()
	v := made(t, m, "v")
	right := map[int]int{}
	for _, n := range sizes() {
		right[n] = 1
	}
	for n := range 1100 {
		if right[n] == 1 {
			is(t, "the size", arrayOf(t, m, times(n, v)...).Size(), n)
		} else {
			refused(t, fmt.Sprint(n, " cells"), m, api.ErrPower, times(n, v)...)
		}
	}
	for _, n := range []int{2048, 65536, 1 << 20} {
		refused(t, fmt.Sprint(n, " cells"), m, api.ErrPower, times(n, v)...)
	}
	refused(t, "nil", m, api.ErrPower, []int(nil)...)
	refused(t, "an empty list", m, api.ErrPower, []int{}...)
}

// TestNewTerm: a cell that is no term, at each place.
func TestNewTerm(t *testing.T) {
	m := simp.New()
	v := made(t, m, "v")
	for _, n := range sizes() {
		for place := range n {
			for _, bad := range noTerms(m) {
				cells := times(n, v)
				cells[place] = bad
				refused(t, fmt.Sprintf("%d at %d of %d", bad, place, n), m, api.ErrTerm, cells...)
			}
		}
	}
	refused(t, "of a maker without a term", simp.New(), api.ErrTerm, 1)
}

// TestNewSort: a truth, and words of unlike widths, at each place.
func TestNewSort(t *testing.T) {
	m := simp.New()
	v := made(t, m, "v")
	for _, text := range []string{"T", "F", "q:0", "(eq v i)", "u:3", "u5:5", "x:64", "y:1", "5:8"} {
		bad := made(t, m, text)
		for _, n := range sizes()[1:] {
			for place := range n {
				cells := times(n, v)
				cells[place] = bad
				refused(t, fmt.Sprintf("%s at %d of %d", text, place, n), m, api.ErrSort, cells...)
			}
		}
	}
	for _, text := range []string{"T", "F", "q:0", "(eq v i)", "(not q:0)"} {
		truth := made(t, m, text)
		for _, n := range sizes() {
			refused(t, "all are "+text, m, api.ErrSort, times(n, truth)...)
		}
		refused(t, text+" first", m, api.ErrSort, truth, v)
		refused(t, text+" later", m, api.ErrSort, v, truth)
		refused(t, text+" first, and words", m, api.ErrSort, truth, v, v, v)
	}
}

// TestNewWhich: which error is told, where several hold.
func TestNewWhich(t *testing.T) {
	m := simp.New()
	v, u, q := made(t, m, "v"), made(t, m, "u:3"), made(t, m, "q:0")
	refused(t, "no maker, right cells", nil, api.ErrNil, v)
	refused(t, "no maker, no cell", nil, api.ErrNil)
	refused(t, "no maker, three cells", nil, api.ErrNil, v, v, v)
	refused(t, "no maker, no term", nil, api.ErrNil, 0)
	refused(t, "no maker, a truth", nil, api.ErrNil, q)
	refused(t, "three cells, no term", m, api.ErrPower, v, -1, v)
	refused(t, "three truths", m, api.ErrPower, q, q, q)
	refused(t, "three cells of unlike sorts", m, api.ErrPower, v, u, q)
	refused(t, "512 that are no terms", m, api.ErrPower, times(512, 0)...)
	refused(t, "a truth, then no term", m, api.ErrTerm, q, 1<<40)
	refused(t, "no term, then a truth", m, api.ErrTerm, 1<<40, q)
	refused(t, "another sort, and behind it no term", m, api.ErrTerm, v, u, v, 0)
	refused(t, "another sort ahead of the last, which is no term", m, api.ErrTerm, u, v, v, -1)
	refused(t, "truths, and no term", m, api.ErrTerm, q, q, q, m.Store().Len()+1)
	refused(t, "no term, and another sort", m, api.ErrTerm, v, 0, u, q)
	refused(t, "a truth first, another sort", m, api.ErrSort, q, u)
}
