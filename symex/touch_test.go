package symex

import (
	"fmt"
	"math/bits"
	"strings"
	"testing"

	"cadence/api"
	"cadence/mem"
)

// touched: code with an array of so many words, and its state: the temp 0 is the index, the declaration 1 the array.
func touched(t testing.TB, width, line, size int) *begun {
	t.Helper()
	return begin(t, code(t, fmt.Sprintf("width %d; line %d; secret k; secret a[%d]; out x;", width, line, size), 3))
}

// TestLines: of each width, line and size, by an index that is a variable, of a load and of a store (F22.3).
func TestLines(t *testing.T) {
	zeros, whole, parts := 0, 0, 0
	for _, w := range widths() {
		for _, line := range powers() {
			for _, size := range powers() {
				b := touched(t, w, line, size)
				n, l := min(bits.Len(uint(size))-1, w), bits.Len(uint(line))-1
				want := fmt.Sprintf("(zext (slice i0 %d %d) %d)", l, n-l, w)
				switch {
				case l >= n:
					want = "0"
					zeros++
				case n-l == w:
					want = "i0"
					whole++
				default:
					parts++
				}
				what := fmt.Sprintf("width %d, line %d, %d words", w, line, size)
				event, seen := b.do(load(2, 1, temp(0)))
				is(t, what, []any{b.showEvent(event), seen}, []any{"load 1 " + want, true})
				is(t, what, event.X, plainLine(b.m, w, line, size, b.in[0]))
				event, seen = b.do(store(1, temp(0), number(1)))
				is(t, what, []any{b.showEvent(event), seen}, []any{"store 1 " + want, true})
			}
		}
	}
	if zeros < 100 || whole < 1 || parts < 100 {
		t.Fatal("too few: ", zeros, whole, parts)
	}
}

// TestLineValues: under values, and of constants, the line is what the index modulo the size is, divided by Line (F22.3).
func TestLineValues(t *testing.T) {
	for _, w := range []int{4, 8, 64} {
		for _, line := range []int{1, 2, 8, 16, 32, 256} {
			for _, size := range []int{1, 2, 8, 16, 32, 256} {
				b := touched(t, w, line, size)
				event, _ := b.do(load(2, 1, temp(0)))
				for _, i := range append(edges(w), 5, 7, 9, 11, 13) {
					want := i % uint64(size) / uint64(line)
					is(t, fmt.Sprint(w, line, size, i), b.values([]int{event.X}, b.told(i))[0], want)
					constant, _ := b.do(load(2, 1, number(i)))
					is(t, fmt.Sprint("of a constant: ", w, line, size, i), b.showEvent(constant), fmt.Sprint("load 1 ", want))
					constant, _ = b.do(store(1, number(i), temp(0)))
					is(t, fmt.Sprint("of a constant: ", w, line, size, i), b.showEvent(constant), fmt.Sprint("store 1 ", want))
				}
			}
		}
	}
}

// TestNarrow: an array that is longer than 2 to the W-th: what no index means stays, and no line tells of it (F22.3).
func TestNarrow(t *testing.T) {
	b := touched(t, 4, 2, 64)
	event, _ := b.do(store(1, temp(0), number(9)))
	is(t, "the line", b.showEvent(event), "store 1 (zext (slice i0 1 3) 4)")
	cells := b.s.Words()[1]
	is(t, "cells", len(cells), 64)
	for n, x := range cells {
		want := fmt.Sprint("i", n+1)
		if n < 16 {
			want = fmt.Sprintf("(ite (eq i0 %d) 9 %s)", n, want)
		}
		is(t, fmt.Sprint("the cell ", n), b.show(x), want)
	}
}

// TestTouch: loads and stores with a constant index, also beyond the size, and with another one (F22.3).
func TestTouch(t *testing.T) {
	b := begin(t, code(t, "width 8; secret k; var v; const T[4] = 7, 6, 5, 4; secret a[4]; out y[1]; out x;", 5))
	steps := []struct {
		x           api.Ins
		event, word string // of the temp that a load sets, or the words of the array that a store writes to
	}{
		{load(3, 2, number(1)), "load 2 1", "6"},
		{load(3, 2, number(255)), "load 2 3", "4"},
		{load(3, 2, temp(1)), "load 2 0", "7"},
		{load(3, 3, number(6)), "load 3 2", "i3"},
		{load(0, 4, temp(0)), "load 4 0", "0"},
		{store(3, number(5), number(77)), "store 3 1", "(i1 77 i3 i4)"},
		{store(3, temp(1), temp(3)), "store 3 0", "(i3 77 i3 i4)"},
		{store(4, temp(3), number(8)), "store 4 0", "(8)"},
		{load(0, 4, temp(3)), "load 4 0", "8"},
		{load(4, 3, temp(3)), "load 3 (zext (slice i3 0 2) 8)", "(ite (eq (slice i3 1 1) 1:1) (ite (eq (slice i3 0 1) 1:1) i4 i3) (ite (eq (slice i3 0 1) 1:1) 77 i3))"},
		{load(4, 2, temp(3)), "load 2 (zext (slice i3 0 2) 8)", "(ite (eq (slice i3 1 1) 1:1) (ite (eq (slice i3 0 1) 1:1) 4 5) (ite (eq (slice i3 0 1) 1:1) 6 7))"},
		{store(3, temp(3), temp(0)), "store 3 (zext (slice i3 0 2) 8)", "(" + strings.Join([]string{"(ite (eq (slice i3 0 2) 0:2) 8 i3)", "(ite (eq (slice i3 0 2) 1:2) 8 77)", "(ite (eq (slice i3 0 2) 2:2) 8 i3)", "(ite (eq (slice i3 0 2) 3:2) 8 i4)"}, " ") + ")"},
	}
	for k, r := range steps {
		event, seen := b.do(r.x)
		is(t, fmt.Sprint("the event ", k), []any{b.showEvent(event), seen}, []any{r.event, true})
		if r.x.Op == api.FLoad {
			is(t, fmt.Sprint("the word ", k), b.show(b.word(temp(r.x.Dst))), r.word)
		} else {
			is(t, fmt.Sprint("the array ", k), b.showWords(b.s.Words()[r.x.Array-1:r.x.Array]), r.word) // the table ahead is not told
		}
	}
	is(t, "all at last", b.showWords(b.s.Words()[:2]), "(8) (0)")
}

// TestAsMem: what is loaded and stored is what an array of mem says, of all kinds of arrays (F22.3).
func TestAsMem(t *testing.T) {
	k := picker(2103)
	for range 3000 {
		size := pick(&k, powers()[:7]...)
		b := begin(t, code(t, fmt.Sprintf("width %d; line %d; secret k; %s a[%d]; public n; out x;", pick(&k, widths()...), pick(&k, 1, 2, 8), pick(&k, "secret", "public", "var", "out"), size), 4))
		a, e := mem.New(b.m, b.s.Words()[1]...)
		is(t, "New", e, api.OK)
		for range 6 {
			at := pick(&k, temp(0), temp(1), temp(3), number(pick(&k, edges(b.f.Width)...)))
			word := pick(&k, temp(0), temp(1), temp(3), number(7))
			if k.below(2) == 0 {
				want, _ := a.Load(b.word(at))
				event, _ := b.do(load(3, 1, at))
				is(t, "what is loaded", b.word(temp(3)), want)
				is(t, "its kind", []int{event.Kind, event.N}, []int{api.EvLoad, 1})
			} else {
				a.Store(b.word(at), b.word(word))
				event, _ := b.do(store(1, at, word))
				is(t, "its kind", []int{event.Kind, event.N}, []int{api.EvStore, 1})
			}
			is(t, "the cells", b.s.Words()[1], a.Cells())
		}
	}
}

// TestEventFirst: the terms of an event are made ahead of the word (F22.3).
func TestEventFirst(t *testing.T) {
	b := touched(t, 8, 2, 8)
	event, _ := b.do(load(2, 1, temp(0)))
	if word := b.word(temp(2)); event.X >= word {
		t.Fatal("of a load: ", event.X, word)
	}
	b = touched(t, 8, 2, 8)
	event, _ = b.do(store(1, temp(0), number(9)))
	for _, cell := range b.s.Words()[1] {
		if event.X >= cell {
			t.Fatal("of a store: ", event.X, cell)
		}
	}
	for _, op := range []int{api.EDiv, api.ERem} {
		b = touched(t, 8, 1, 1)
		event, _ = b.do(ins(op, 2, number(200), number(7)))
		if word := b.word(temp(2)); event.X >= word || event.Y >= word {
			t.Fatal("of a division: ", event, word)
		}
	}
}
