package pair

import (
	"fmt"
	"math"
	"testing"

	"cadence/api"
)

// TestLooks: Word and Cells with a copy, a temp, an array that is none: ErrArg (P2305).
func TestLooks(t *testing.T) {
	g := start(t, code(t, "width 8; secret k; out x; const T[2] = 1, 2; var a[4]; public n;", 5))
	for _, copy := range []int{1, 2, 0, 3, -1, 4, math.MaxInt, math.MinInt} {
		for _, n := range []int{0, 1, 2, 3, 4, 5, 6, -1, -2, 1 << 20, math.MaxInt, math.MinInt} {
			word, e := g.w.Word(copy, n)
			right := (copy == 1 || copy == 2) && n >= 0 && n < 5
			if right != (e == api.OK) || right != (word > 0) || !right && e != api.ErrArg {
				t.Fatalf("Word(%d, %d) = %d, %d", copy, n, word, e)
			}
			cells, e := g.w.Cells(copy, n)
			right = (copy == 1 || copy == 2) && (n == 2 || n == 3)
			if right != (e == api.OK) || len(cells) != map[bool]int{true: 2*n - 2}[right] || !right && e != api.ErrArg {
				t.Fatalf("Cells(%d, %d) = %v, %d", copy, n, cells, e)
			}
		}
	}
}

// TestLooksBehind: what is looked at behind Room, Differ, Branch and End is what the way has there (P2305).
func TestLooksBehind(t *testing.T) {
	g := start(t, code(t, "width 8; line 4; secret k; public n; out x; var a[4];", 4,
		ins(api.EAdd, 2, temp(0), number(1)), store(3, number(1), temp(2)), release(temp(0)),
		ins(api.EDiv, 3, temp(0), number(3)), store(3, number(2), temp(3)),
		branch(temp(1), list(ins(api.FCopy, 2, number(7))), nil)))
	look := func(events int, assumed, x, t3, a string) {
		t.Helper()
		g.so(events, assumed)
		is(t, "x, t3, a", g.words(2)+"; "+g.words(3)+"; "+g.arrays(3), x+"; "+t3+"; "+a)
	}
	const sum, third = "(add x0 1) | (add y0 1)", "(div x0 3) | (div y0 3)"
	look(0, "", "0 | 0", "0 | 0", "0, 0, 0, 0 | 0, 0, 0, 0")
	g.is(9, Room, "", 2)
	look(0, "", sum, "0 | 0", "0, 0, 0, 0 | 0, 0, 0, 0")
	g.is(8, Room, "", 8)
	look(1, "", sum, "0 | 0", "0, (add x0 1), 0, 0 | 0, (add y0 1), 0, 0")
	g.is(-1, Differ, "(not (eq x0 y0))", 4)
	look(2, "(eq x0 y0)", sum, "0 | 0", "0, (add x0 1), 0, 0 | 0, (add y0 1), 0, 0")
	g.agree()
	look(3, "(eq x0 y0)", sum, third, "0, (add x0 1), 0, 0 | 0, (add y0 1), 0, 0")
	g.is(-1, Branch, "(not (eq p1 0))", 10)
	behind := "0, (add x0 1), (div x0 3), 0 | 0, (add y0 1), (div y0 3), 0"
	look(5, "(eq x0 y0)", sum, third, behind)
	then, otherwise := g.fork()
	g = then
	look(5, "(eq x0 y0), (not (eq p1 0))", sum, third, behind)
	g.is(-1, End, "", 2)
	look(5, "(eq x0 y0), (not (eq p1 0))", "7 | 7", third, behind)
	g = otherwise
	look(5, "(eq x0 y0), (eq p1 0)", sum, third, behind)
	g.is(-1, End, "", 0)
	look(5, "(eq x0 y0), (eq p1 0)", sum, third, behind)
}

// TestOneStore: all ways of one Start have one store, in which all that they tell stands (P2305).
func TestOneStore(t *testing.T) {
	g := start(t, program(t, chapterText))
	s := g.w.Store()
	g.w.Next(-1)
	g.agree()
	a, b := g.fork()
	for _, w := range []*going{g, a, b} {
		if w.w.Store() != s {
			t.Fatal("another store")
		}
		for _, x := range w.w.Assumed() {
			if _, e := s.Node(x); e != api.OK {
				t.Fatal("no term of it: ", x)
			}
		}
	}
}

// TestNoChange: looks change nothing (P2305).
func TestNoChange(t *testing.T) {
	g := start(t, program(t, chapterText))
	terms := g.w.Store().Len()
	for range 3 {
		for c := 1; c <= 2; c++ {
			for i := range g.f.Temps {
				g.word(c, i)
			}
			g.cells(c, 2)
		}
		g.w.Assumed()
		g.w.Events()
	}
	is(t, "terms", g.w.Store().Len(), terms)
	is(t, "the way", fmt.Sprint(g.ask(g.w.Next(-1))), "differ 16 (xor "+lowX+" "+lowY+")")
}
