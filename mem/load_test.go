package mem

import (
	"fmt"
	"testing"

	"cadence/api"
	"cadence/simp"
)

// chosen: the text that Load must answer of an index, told from the top down: the highest bit parts the cells from to from + 2 to the bits-th in two.
func chosen(i string, from, bits int, cell func(n int) string) string {
	if bits == 0 {
		return cell(from)
	}
	upper := chosen(i, from+1<<(bits-1), bits-1, cell)
	lower := chosen(i, from, bits-1, cell)
	return fmt.Sprintf("(ite (eq (slice %s %d 1) 1:1) %s %s)", i, bits-1, upper, lower)
}

// logOf: of a power of two.
func logOf(n int) int {
	k := 0
	for 1<<k < n {
		k++
	}
	return k
}

// TestLoad: of a variable as index, for all sizes and several widths: N below, equal to, and above 2 to the W-th.
func TestLoad(t *testing.T) {
	for _, n := range sizes() {
		for _, w := range []int{2, 3, 4, 5, 7, 8, 9, 16, 63, 64} {
			m := simp.New()
			a := numbered(t, m, n, w)
			i := fmt.Sprint("i:", w)
			want := chosen(i, 0, min(logOf(n), w), func(n int) string { return fmt.Sprintf("e%d:%d", n, w) })
			wantText(t, fmt.Sprint(n, " words of ", w, " bits"), m, load(t, a, made(t, m, i)), want)
		}
	}
}

// TestLoadOneBit: words of one bit: the index is its own bit.
func TestLoadOneBit(t *testing.T) {
	for _, n := range sizes()[1:] {
		m := simp.New()
		a := numbered(t, m, n, 1)
		wantText(t, fmt.Sprint(n, " cells"), m, load(t, a, made(t, m, "i:1")), "(ite (eq i:1 1:1) e1:1 e0:1)")
		wantText(t, "at 0", m, load(t, a, made(t, m, "0:1")), "e0:1")
		wantText(t, "at 1", m, load(t, a, made(t, m, "1:1")), "e1:1")
	}
}

// TestLoadOneCell: the answer is the cell, whatever the index is.
func TestLoadOneCell(t *testing.T) {
	for _, w := range []int{1, 4, 8, 64} {
		m := simp.New()
		a := numbered(t, m, 1, w)
		for _, text := range []string{"i", "0", "1", "e0"} {
			wantText(t, text, m, load(t, a, made(t, m, fmt.Sprint(text, ":", w))), fmt.Sprint("e0:", w))
		}
	}
}

// TestLoadConst: each constant index means the cell with its number modulo N.
func TestLoadConst(t *testing.T) {
	for _, w := range []int{1, 2, 3, 4, 8, 9} {
		for _, n := range sizes() {
			m := simp.New()
			a := numbered(t, m, n, w)
			for x := range 1 << w {
				got := load(t, a, made(t, m, fmt.Sprint(x, ":", w)))
				is(t, fmt.Sprint(x, " of ", w, " bits in ", n), got, a.Cells()[x%n])
			}
		}
	}
}

// TestLoadGreatConst: constants of wide words.
func TestLoadGreatConst(t *testing.T) {
	for _, n := range sizes() {
		m := simp.New()
		a := numbered(t, m, n, 64)
		for _, x := range []uint64{0, 1, 255, 256, 257, 1<<32 + 7, 1 << 63, 1<<63 + 200, ^uint64(0), ^uint64(0) - 1, 0xfedcba9876543210} {
			i, _ := m.Const(64, x)
			is(t, fmt.Sprint(x, " in ", n), load(t, a, i), a.Cells()[x%uint64(n)])
		}
	}
}

// TestLoadLowConst: indices that are no constants, but whose lowest bits are made one.
func TestLoadLowConst(t *testing.T) {
	for _, r := range []struct {
		i    string
		n    int
		want string
	}{
		{"(cat u:2 2:2)", 4, "e2"},
		{"(cat u:2 2:2)", 2, "e0"},
		{"(cat u:2 3:2)", 2, "e1"},
		{"(cat u:3 1:1)", 2, "e1"},
		{"(cat y:1 5:3)", 8, "e5"},
		{"(cat y:1 5:3)", 4, "e1"},
		{"(cat y:1 (cat z:1 3:2))", 4, "e3"},
		{"(slice (cat u 9) 2 4)", 4, "e2"},
		{"(slice (cat u 9) 2 4)", 2, "e0"},
	} {
		m := simp.New()
		i := made(t, m, r.i)
		if n, _ := m.Store().Node(i); n.Op == api.OpConst {
			t.Fatal("a constant: ", r.i)
		}
		wantText(t, r.i, m, load(t, numbered(t, m, r.n, 4), i), r.want)
	}
}

// TestLoadSomeBits: indices some of whose lowest bits are constants, and some are not: an Ite of a constant truth is made simple.
func TestLoadSomeBits(t *testing.T) {
	const u0, u1 = "(eq (slice u:2 0 1) 1:1)", "(eq (slice u:2 1 1) 1:1)"
	for _, r := range []struct {
		i    string
		n    int
		want string
	}{
		{"(cat y:1 (cat u:2 1:1))", 8, "(ite " + u1 + " (ite " + u0 + " e7 e5) (ite " + u0 + " e3 e1))"},
		{"(cat y:1 (cat u:2 0:1))", 8, "(ite " + u1 + " (ite " + u0 + " e6 e4) (ite " + u0 + " e2 e0))"},
		{"(cat y:1 (cat 1:1 u:2))", 8, "(ite " + u1 + " (ite " + u0 + " e7 e6) (ite " + u0 + " e5 e4))"},
		{"(cat y:1 (cat 1:1 u:2))", 4, "(ite " + u1 + " (ite " + u0 + " e3 e2) (ite " + u0 + " e1 e0))"},
		{"(cat 2:2 u:2)", 16, "(ite " + u1 + " (ite " + u0 + " e11 e10) (ite " + u0 + " e9 e8))"},
		{"(zext u:2 4)", 16, "(ite " + u1 + " (ite " + u0 + " e3 e2) (ite " + u0 + " e1 e0))"},
		{"(zext y:1 4)", 8, "(ite (eq y:1 1:1) e1 e0)"},
		{"(slice (cat u 9) 2 4)", 8, "(ite (eq (slice u 0 1) 1:1) e6 e2)"},
		{"(slice x:64 9 4)", 2, "(ite (eq (slice x:64 9 1) 1:1) e1 e0)"}, // a bit of an index that is a slice
	} {
		m := simp.New()
		wantText(t, r.i, m, load(t, numbered(t, m, r.n, 4), made(t, m, r.i)), r.want)
	}
}

// TestLoadAlike: cells that are alike, so that an Ite is made simple; which ones tells the order in which the list is made half as long.
func TestLoadAlike(t *testing.T) {
	const i0, i1, i2 = "(eq (slice i 0 1) 1:1)", "(eq (slice i 1 1) 1:1)", "(eq (slice i 2 1) 1:1)"
	for _, r := range []struct {
		cells []string
		want  string
	}{
		{[]string{"x", "x"}, "x"},
		{[]string{"x", "x", "x", "x", "x", "x", "x", "x"}, "x"},
		{[]string{"x", "y", "x", "y"}, "(ite " + i0 + " y x)"},
		{[]string{"x", "x", "y", "y"}, "(ite " + i1 + " y x)"},
		{[]string{"x", "y", "y", "x"}, "(ite " + i1 + " (ite " + i0 + " x y) (ite " + i0 + " y x))"},
		{[]string{"x", "x", "x", "y"}, "(ite " + i1 + " (ite " + i0 + " y x) x)"},
		{[]string{"y", "x", "x", "x"}, "(ite " + i1 + " x (ite " + i0 + " x y))"},
		{[]string{"x", "y", "x", "y", "x", "y", "x", "y"}, "(ite " + i0 + " y x)"},
		{[]string{"x", "x", "y", "y", "x", "x", "y", "y"}, "(ite " + i1 + " y x)"},
		{[]string{"x", "x", "x", "x", "y", "y", "y", "y"}, "(ite " + i2 + " y x)"},
		{[]string{"x", "y", "z", "z", "x", "y", "z", "z"}, "(ite " + i1 + " z (ite " + i0 + " y x))"},
		{[]string{"7", "7", "7", "7"}, "7"},
	} {
		m := simp.New()
		wantText(t, fmt.Sprint(r.cells), m, load(t, array(t, m, r.cells...), made(t, m, "i")), r.want)
	}
}

// TestLoadIteCells: cells that are Ites of an index' bits fit the rules of Ite as they are met.
func TestLoadIteCells(t *testing.T) {
	const i0, i1 = "(eq (slice i 0 1) 1:1)", "(eq (slice i 1 1) 1:1)"
	m := simp.New()
	a := array(t, m, "(ite "+i0+" x y)", "(ite "+i0+" w z)", "(ite "+i1+" x y)", "(ite "+i1+" y z)")
	wantText(t, "Load", m, load(t, a, made(t, m, "i")), "(ite "+i1+" (ite "+i0+" (ite "+i1+" y z) (ite "+i1+" x y)) (ite "+i0+" w y))")
}

// TestLoadKeeps: no Load changes a cell, whatever its index is.
func TestLoadKeeps(t *testing.T) {
	for _, n := range sizes() {
		m := simp.New()
		a := numbered(t, m, n, 4)
		before := a.Cells()
		for _, text := range []string{"i", "3", "(cat u:2 1:2)", "(add i 1)", "e0"} {
			i := made(t, m, text)
			first := load(t, a, i)
			is(t, "the cells behind Load of "+text, a.Cells(), before)
			is(t, "once more: "+text, load(t, a, i), first)
		}
	}
}

// TestLoadRefused: a number that is no term, and terms of other sorts.
func TestLoadRefused(t *testing.T) {
	for _, n := range sizes() {
		m := simp.New()
		a := numbered(t, m, n, 4)
		bad := map[string]api.Errno{"T": api.ErrSort, "F": api.ErrSort, "q:0": api.ErrSort, "(eq e0 3)": api.ErrSort, "u:3": api.ErrSort, "u5:5": api.ErrSort, "y:1": api.ErrSort, "x:64": api.ErrSort, "(slice e0 0 2)": api.ErrSort, "0:2": api.ErrSort, "1:8": api.ErrSort}
		indices := map[int]api.Errno{}
		for text, e := range bad {
			indices[made(t, m, text)] = e
		}
		for _, none := range noTerms(m) {
			indices[none] = api.ErrTerm
		}
		cells, terms := a.Cells(), m.Store().Len()
		for i, want := range indices {
			if x, e := a.Load(i); x != 0 || e != want {
				t.Fatalf("%d cells, Load(%d): %d, %v, not %v", n, i, x, e, want)
			}
			is(t, "the cells", a.Cells(), cells)
			is(t, "the maker's terms", m.Store().Len(), terms)
		}
	}
}

// TestLoadRaw: an index that no rule has made simple is taken as it is.
func TestLoadRaw(t *testing.T) {
	m := simp.New()
	a := numbered(t, m, 16, 4)
	sum := raw(t, m, "(add 1 2)") // its slice of all bits is itself, which is no constant
	wantText(t, "all bits", m, load(t, a, sum), chosen("(add 1 2)", 0, 4, func(n int) string { return fmt.Sprint("e", n) }))
}
