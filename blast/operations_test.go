package blast

import (
	"fmt"
	"testing"

	"cadence/aig"
	"cadence/api"
	"cadence/eval"
	"cadence/term"
)

// operands: of a width, two variables, and constants: 0, 1, all ones, the highest bit alone, others.
func operands(t testing.TB, p *picker, s *term.Store, w int) []int {
	t.Helper()
	out := []int{must[int](t)(s.Var("x", w)), must[int](t)(s.Var("y", w))}
	if w == 0 {
		return append(out, must[int](t)(s.Truth(true)), must[int](t)(s.Truth(false)))
	}
	for _, x := range []uint64{0, 1, ^uint64(0), 1 << (w - 1), p.next(), uint64(w), uint64(w) + 1, uint64(w) - 1} {
		out = append(out, must[int](t)(s.Const(w, x)))
	}
	return out
}

// all: what term lets pass of one operation over each pair of operands.
func all(s *term.Store, op int, parts []int) []int {
	var made []int
	add := func(n int, e api.Errno) {
		if e == api.OK {
			made = append(made, n)
		}
	}
	for _, a := range parts {
		add(s.Un(op, a))
		for _, w := range []int{1, 2, 7, 8, 9, 32, 63, 64} {
			add(s.Ext(op, a, w))
			for _, from := range []int{0, 1, 31, 32, 63} {
				if op == api.OpSlice {
					add(s.Slice(a, from, w))
				}
			}
		}
		for _, b := range parts {
			add(s.Bin(op, a, b))
			if op == api.OpIte {
				c, _ := s.Var("c", 0)
				add(s.Ite(c, a, b))
				yes, _ := s.Truth(true)
				add(s.Ite(yes, a, b))
			}
		}
	}
	return made
}

// P1102, P1105: each operation at each width, with variables and constants: the gates by the chapter's words, the values by chapter 8.
func TestOperations(t *testing.T) {
	p := picker(11)
	for op := api.OpNot; op <= api.OpLast; op++ {
		got := 0
		for _, w := range []int{0, 1, 2, 8, 32, 64} {
			s := must[*term.Store](t)(term.New(0))
			roots := all(s, op, operands(t, &p, s, w))
			for i, root := range roots {
				if slow := op == api.OpMul || op == api.OpDiv || op == api.OpRem; slow && w > 8 && i%9 != 1 && i > 4 {
					continue // some of them are enough: they are very great
				}
				h := newHolding(t, s, aig.New())
				h.bits(root)
				h.end()
				means(t, &p, s, h.g, h.b, root)
				got++
			}
		}
		if got < 4 {
			t.Fatalf("operation %d: %d terms", op, got)
		}
	}
}

// cat of unlike widths, ite of words with unlike conditions, zext and sext to every greater width, slices at all places.
func TestPieces(t *testing.T) {
	p := picker(12)
	for w := 1; w <= 64; w++ {
		s := must[*term.Store](t)(term.New(0))
		x := must[int](t)(s.Var("x", w))
		var roots []int
		for to := w; to <= 64; to++ {
			roots = append(roots, must[int](t)(s.Ext(api.OpZext, x, to)), must[int](t)(s.Ext(api.OpSext, x, to)))
		}
		for from := range w {
			for n := 1; n <= w-from; n += 1 + p.below(5) {
				roots = append(roots, must[int](t)(s.Slice(x, from, n)))
			}
			roots = append(roots, must[int](t)(s.Slice(x, from, w-from)))
		}
		if w < 64 {
			y := must[int](t)(s.Var("y", 64-w))
			roots = append(roots, must[int](t)(s.Bin(api.OpCat, x, y)), must[int](t)(s.Bin(api.OpCat, y, x)))
		}
		h := newHolding(t, s, aig.New())
		for _, r := range roots {
			h.bits(r)
		}
		h.end()
		if w%9 == 1 || w == 2 {
			means(t, &p, s, h.g, h.b, roots...)
		}
	}
}

// allValues: of two variables of w bits, every pair: what the literals say and what the term says.
func allValues(t *testing.T, w, op int) {
	t.Helper()
	s := must[*term.Store](t)(term.New(0))
	x, y := must[int](t)(s.Var("x", w)), must[int](t)(s.Var("y", w))
	root := must[int](t)(s.Bin(op, x, y))
	b, g := newBlaster(t, s)
	l := must[[]uint32](t)(b.Bits(root))
	for pair := range uint64(1) << (2 * w) {
		var in []bool
		for i := range 2 * w {
			in = append(in, pair>>i&1 == 1)
		}
		got := uint64(0)
		for i, bit := range must[[]bool](t)(g.Eval(in, l)) {
			if bit {
				got += 1 << i
			}
		}
		vals := must[[]api.Value](t)(b.Lift(in))
		want := must[uint64](t)(eval.Value(s, root, vals))
		is(t, fmt.Sprint("operation ", op, " of ", vals), got, want)
		a, c := pair&(1<<w-1), pair>>w
		is(t, "Lift", vals, []api.Value{{Name: "x", W: w, Num: a}, {Name: "y", W: w, Num: c}})
	}
}

// P1105: all values: shifts and turns by every amount, as great as the width and greater too; both signs; div and rem by zero.
func TestAllValues(t *testing.T) {
	for op := api.OpEq; op <= api.OpRor; op++ {
		if op == api.OpIte || op == api.OpCom || op == api.OpNeg {
			continue
		}
		for _, w := range []int{1, 2, 3, 4} {
			if op >= api.OpShl && w == 3 {
				continue // no width of shifts
			}
			allValues(t, w, op)
		}
	}
}

// The same for the shifts at 8 bits, and of a division's zero at each width.
func TestGreaterAmounts(t *testing.T) {
	p := picker(13)
	for _, w := range []int{8, 16, 32, 64} {
		for op := api.OpShl; op <= api.OpRor; op++ {
			s := must[*term.Store](t)(term.New(0))
			x := must[int](t)(s.Var("x", w))
			var roots []int
			for amount := range uint64(2*w + 3) {
				c := must[int](t)(s.Const(w, amount))
				roots = append(roots, must[int](t)(s.Bin(op, x, c)))
			}
			top := must[int](t)(s.Const(w, ^uint64(0)))
			roots = append(roots, must[int](t)(s.Bin(op, x, top)))
			b, g := newBlaster(t, s)
			means(t, &p, s, g, b, roots...)
			is(t, "no gate is needed", g.Nodes(), 1+w)
		}
	}
	for w := 1; w <= 24; w++ {
		s, roots := newStore(t, fmt.Sprintf("1 var x %d\n2 const %d 0\n3 div 1 2\n4 rem 1 2\nroots 3 4\n", w, w))
		b, g := newBlaster(t, s)
		means(t, &p, s, g, b, roots...)
	}
}

// P1102, P1105: mixed terms, asked for in any order.
func TestMixed(t *testing.T) {
	p := picker(14)
	for range 60 {
		s := grown(t, &p, 120)
		h := newHolding(t, s, aig.New())
		var roots []int
		for range 12 {
			root := 1 + p.below(s.Len())
			roots = append(roots, root)
			h.bits(root)
		}
		h.end()
		for range 3 {
			means(t, &p, s, h.g, h.b, roots...)
		}
	}
}
