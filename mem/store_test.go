package mem

import (
	"fmt"
	"testing"

	"cadence/api"
	"cadence/simp"
)

// TestStore: of a variable as index, for all sizes and several widths: N below, equal to, and above 2 to the W-th.
func TestStore(t *testing.T) {
	for _, n := range sizes()[1:] {
		for _, w := range []int{1, 2, 3, 4, 5, 7, 8, 9, 16, 63, 64} {
			m := simp.New()
			a := numbered(t, m, n, w)
			store(t, a, made(t, m, fmt.Sprint("i:", w)), made(t, m, fmt.Sprint("v:", w)))
			k := min(logOf(n), w)
			low := fmt.Sprintf("(slice i:%d 0 %d)", w, k)
			if k == w {
				low = fmt.Sprint("i:", w)
			}
			want := each(n, fmt.Sprintf("e#:%d", w))
			for place := range 1 << k {
				want[place] = fmt.Sprintf("(ite (eq %s %d:%d) v:%d %s)", low, place, k, w, want[place])
			}
			wantCells(t, fmt.Sprint(n, " words of ", w, " bits"), m, a, want...)
		}
	}
}

// TestStoreOneCell: the cell is what was stored, whatever the index is.
func TestStoreOneCell(t *testing.T) {
	for _, w := range []int{1, 4, 8, 64} {
		m := simp.New()
		a := numbered(t, m, 1, w)
		for n, text := range []string{"i", "0", "1", "e0"} {
			v := fmt.Sprintf("v%d:%d", n, w)
			store(t, a, made(t, m, fmt.Sprint(text, ":", w)), made(t, m, v))
			wantCells(t, text, m, a, v)
		}
	}
}

// TestStoreConst: each constant index means the cell with its number modulo N, and no other one.
func TestStoreConst(t *testing.T) {
	for _, w := range []int{1, 2, 3, 4, 8, 9} {
		for _, n := range sizes() {
			m := simp.New()
			a := numbered(t, m, n, w)
			want := a.Cells()
			for x := range 1 << w {
				v := made(t, m, fmt.Sprintf("v%d:%d", x, w))
				store(t, a, made(t, m, fmt.Sprint(x, ":", w)), v)
				want[x%n] = v
				is(t, fmt.Sprint(x, " of ", w, " bits in ", n), a.Cells(), want)
			}
		}
	}
}

// TestStoreGreatConst: constants of wide words.
func TestStoreGreatConst(t *testing.T) {
	for _, n := range sizes() {
		m := simp.New()
		a := numbered(t, m, n, 64)
		want := a.Cells()
		for r, x := range []uint64{0, 1, 255, 256, 257, 1<<32 + 7, 1 << 63, 1<<63 + 200, ^uint64(0), ^uint64(0) - 1, 0xfedcba9876543210} {
			i, _ := m.Const(64, x)
			v := made(t, m, fmt.Sprintf("v%d:64", r))
			store(t, a, i, v)
			want[x%uint64(n)] = v
			is(t, fmt.Sprint(x, " in ", n), a.Cells(), want)
		}
	}
}

// TestStoreLowBits: indices whose lowest bits, or some of them, are made a constant.
func TestStoreLowBits(t *testing.T) {
	for _, r := range []struct {
		i    string
		want []string
	}{
		{"(cat u:2 2:2)", []string{"e0", "e1", "v", "e3"}},
		{"(cat u:2 2:2)", []string{"v", "e1"}},
		{"(cat y:1 5:3)", []string{"e0", "v", "e2", "e3"}},
		{"(slice (cat u 9) 2 4)", []string{"e0", "e1", "v", "e3"}},
		{"(cat 1:1 u:3)", []string{"(ite (eq (slice u:3 0 1) 0:1) v e0)", "(ite (eq (slice u:3 0 1) 1:1) v e1)"}},
		{"(cat y:1 (cat u:2 1:1))", []string{"e0", "(ite (eq u:2 0:2) v e1)", "e2", "(ite (eq u:2 1:2) v e3)", "e4", "(ite (eq u:2 2:2) v e5)", "e6", "(ite (eq u:2 3:2) v e7)"}},
		{"(zext u:2 4)", []string{"(ite (eq u:2 0:2) v e0)", "(ite (eq u:2 1:2) v e1)", "(ite (eq u:2 2:2) v e2)", "(ite (eq u:2 3:2) v e3)"}},
	} {
		m := simp.New()
		a := numbered(t, m, len(r.want), 4)
		store(t, a, made(t, m, r.i), made(t, m, "v"))
		wantCells(t, r.i, m, a, r.want...)
	}
}

// TestStoreRules: the compares of an index with the places are made simple, and so are the Ites.
func TestStoreRules(t *testing.T) {
	m := simp.New()
	a := numbered(t, m, 16, 4)
	v := made(t, m, "v")
	store(t, a, made(t, m, "(add i 15)"), v) // i + 15 is n where i is n + 1
	want := each(16, "e#")
	for n := range want {
		want[n] = fmt.Sprintf("(ite (eq i %d) v e%d)", (n+1)%16, n)
	}
	wantCells(t, "a sum", m, a, want...)
	a = numbered(t, m, 16, 4)
	store(t, a, made(t, m, "(ite q:0 3 9)"), v)
	want = each(16, "e#")
	want[3], want[9] = "(ite q:0 v e3)", "(ite q:0 e9 v)" // not q turns the Ite
	wantCells(t, "one of two", m, a, want...)
	a = numbered(t, m, 16, 4)
	store(t, a, raw(t, m, "(add 1 2)"), v) // no constant, but what it is compared with tells
	want = each(16, "e#")
	want[3] = "v"
	wantCells(t, "not made simple", m, a, want...)
	a = array(t, m, "x", "v", "5", "v")
	store(t, a, made(t, m, "i"), v)
	wantCells(t, "what stands there already", m, a, "(ite (eq (slice i 0 2) 0:2) v x)", "v", "(ite (eq (slice i 0 2) 2:2) v 5)", "v")
}

// TestStoreThenLoad: behind a Store with an index that is no constant: Loads with constants, with the same index, and with another.
func TestStoreThenLoad(t *testing.T) {
	m := simp.New()
	a := numbered(t, m, 4, 4)
	i, v := made(t, m, "i"), made(t, m, "v")
	store(t, a, i, v)
	for x := range 16 {
		want := fmt.Sprintf("(ite (eq (slice i 0 2) %d:2) v e%d)", x%4, x%4)
		wantText(t, fmt.Sprint("Load of ", x), m, load(t, a, made(t, m, fmt.Sprint(x))), want)
	}
	cell := func(n int) string { return fmt.Sprintf("(ite (eq (slice i 0 2) %d:2) v e%d)", n, n) }
	wantText(t, "the same index", m, load(t, a, i), chosen("i", 0, 2, cell))
	wantText(t, "another index", m, load(t, a, made(t, m, "j")), chosen("j", 0, 2, cell))
	b := numbered(t, m, 2, 4)
	store(t, b, i, v)
	const low = "(slice i 0 1)" // the bit of the index and the compare with place 1 are one term
	wantText(t, "the same index, of two cells", m, load(t, b, i), "(ite (eq "+low+" 1:1) v (ite (eq "+low+" 0:1) v e0))")
}

// TestStores: one behind the other.
func TestStores(t *testing.T) {
	m := simp.New()
	a := numbered(t, m, 4, 4)
	i, j, v, w := made(t, m, "i"), made(t, m, "j"), made(t, m, "v"), made(t, m, "w")
	store(t, a, i, v)
	store(t, a, i, w) // at the same index: what stood there is gone
	wantCells(t, "the same index", m, a, each(4, "(ite (eq (slice i 0 2) #:2) w e#)")...)
	store(t, a, j, v)
	wantCells(t, "another index", m, a, each(4, "(ite (eq (slice j 0 2) #:2) v (ite (eq (slice i 0 2) #:2) w e#))")...)
	store(t, a, i, v) // the first index is not the outermost: nothing goes
	want := each(4, "(ite (eq (slice i 0 2) #:2) v (ite (eq (slice j 0 2) #:2) v (ite (eq (slice i 0 2) #:2) w e#)))")
	wantCells(t, "the first again", m, a, want...)
	store(t, a, made(t, m, "6"), w)
	want[2] = "w"
	wantCells(t, "a constant", m, a, want...)
	store(t, a, made(t, m, "10"), i)
	want[2] = "i"
	wantCells(t, "a constant that means the same", m, a, want...)
	store(t, a, j, w)
	for n := range want {
		want[n] = fmt.Sprintf("(ite (eq (slice j 0 2) %d:2) w %s)", n, want[n])
	}
	wantCells(t, "behind constants", m, a, want...)
}

// TestStoreOwn: what was loaded is stored, and an index is a cell, or is what is stored.
func TestStoreOwn(t *testing.T) {
	m := simp.New()
	a := numbered(t, m, 2, 4)
	i := made(t, m, "i")
	store(t, a, i, i)
	wantCells(t, "an index as word", m, a, each(2, "(ite (eq (slice i 0 1) #:1) i e#)")...)
	a = numbered(t, m, 2, 4)
	e0, e1 := a.Cells()[0], a.Cells()[1]
	store(t, a, e0, e1) // the compares are with e0 as it was, also at place 1
	wantCells(t, "a cell as index", m, a, "(ite (eq (slice e0 0 1) 0:1) e1 e0)", "e1")
	a = numbered(t, m, 2, 4)
	store(t, a, i, load(t, a, i))
	const c, l = "(eq (slice i 0 1) 1:1)", "(ite (eq (slice i 0 1) 1:1) e1 e0)"
	wantCells(t, "what was loaded", m, a, "(ite (eq (slice i 0 1) 0:1) "+l+" e0)", "e1")
	wantText(t, "loaded again", m, load(t, a, i), "(ite "+c+" e1 (ite (eq (slice i 0 1) 0:1) "+l+" e0))")
}

// TestStoreRefused: numbers that are no terms, and terms of other sorts, as index, as word, as both: nothing changes.
func TestStoreRefused(t *testing.T) {
	for _, n := range sizes() {
		m := simp.New()
		a := numbered(t, m, n, 4)
		store(t, a, made(t, m, "i"), made(t, m, "v"))
		var right, other []int
		for _, text := range []string{"i", "v", "3", "(cat u:2 1:2)", "e0"} {
			right = append(right, made(t, m, text))
		}
		for _, text := range []string{"T", "F", "q:0", "(eq i 3)", "u3:3", "u5:5", "y:1", "x:64", "0:2", "1:8"} {
			other = append(other, made(t, m, text))
		}
		none := noTerms(m)
		cells, terms := a.Cells(), m.Store().Len()
		check := func(indices, words []int, want api.Errno) {
			t.Helper()
			for _, i := range indices {
				for _, v := range words {
					if e := a.Store(i, v); e != want {
						t.Fatalf("%d cells, Store(%d, %d): %v, not %v", n, i, v, e, want)
					}
					if fmt.Sprint(a.Cells()) != fmt.Sprint(cells) || m.Store().Len() != terms {
						t.Fatalf("%d cells, Store(%d, %d): refused, but not without a trace", n, i, v)
					}
				}
			}
		}
		check(none, right, api.ErrTerm)
		check(right, none, api.ErrTerm)
		check(none, none, api.ErrTerm)
		check(none, other, api.ErrTerm)
		check(other, none, api.ErrTerm)
		check(other, right, api.ErrSort)
		check(right, other, api.ErrSort)
		check(other, other, api.ErrSort)
	}
}
