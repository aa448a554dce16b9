package mem

import (
	"fmt"
	"testing"

	"cadence/api"
	"cadence/simp"
)

// TestExamples: those of the chapter.
func TestExamples(t *testing.T) {
	m := simp.New()
	a := array(t, m, "5", "6", "7", "8")
	i, v := made(t, m, "i"), made(t, m, "v")
	wantText(t, "Load(6)", m, load(t, a, made(t, m, "6")), "7")
	const c0, c1 = "(eq (slice i 0 1) 1:1)", "(eq (slice i 1 1) 1:1)"
	wantText(t, "Load(i)", m, load(t, a, i), fmt.Sprintf("(ite %s (ite %s 8 7) (ite %s 6 5))", c1, c0, c0))
	store(t, a, i, v)
	wantCells(t, "behind Store(i, v)", m, a,
		"(ite (eq (slice i 0 2) 0:2) v 5)", "(ite (eq (slice i 0 2) 1:2) v 6)", "(ite (eq (slice i 0 2) 2:2) v 7)", "(ite (eq (slice i 0 2) 3:2) v 8)")
	wantText(t, "Load(1)", m, load(t, a, made(t, m, "1")), "(ite (eq (slice i 0 2) 1:2) v 6)")
	if x, e := a.Load(made(t, m, "(slice i 0 2)")); x != 0 || e != api.ErrSort {
		t.Error(x, e)
	}
	five := made(t, m, "5")
	refused(t, "New(m)", m, api.ErrPower)
	refused(t, "New(m, 5, 5, 5)", m, api.ErrPower, five, five, five)
	refused(t, "New(m, a truth)", m, api.ErrSort, m.Truth(true))
	b := numbered(t, m, 32, 4)
	store(t, b, i, v)
	for n, text := range each(32, "e#") {
		if n < 16 {
			text = fmt.Sprintf("(ite (eq i %d) v %s)", n, text)
		}
		wantText(t, fmt.Sprint("the cell ", n, " of 32"), m, b.Cells()[n], text)
	}
}
