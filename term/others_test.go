package term

import (
	"math"
	"slices"
	"testing"

	"cadence/api"
	"cadence/bits"
)

// opsOf: the operations that a call takes, as P703 says it in brackets.
func opsOf(call string) []int {
	switch call {
	case "Un":
		return []int{api.OpNot, api.OpCom, api.OpNeg}
	case "Ext":
		return []int{api.OpZext, api.OpSext}
	}
	var ops []int
	for op := api.OpAnd; op <= api.OpSle; op++ {
		ops = append(ops, op)
	}
	for op := api.OpBand; op <= api.OpRor; op++ {
		ops = append(ops, op)
	}
	return append(ops, api.OpCat)
}

// someOps: all operations, and numbers that are none.
func someOps() []int {
	ops := []int{math.MinInt, math.MaxInt, 1<<32 + api.OpAnd}
	for op := -2; op <= 40; op++ {
		ops = append(ops, op)
	}
	return ops
}

// someParts: the terms of leaves, and numbers that are none.
var someParts = []int{-1, 0, 1, 2, 3, 4, 5, 6, 7, 8, 9, 10, math.MaxInt, math.MinInt}

// TestUnAndBin: what Make answers of the node that is meant.
func TestUnAndBin(t *testing.T) {
	s, p := leaves(t)
	for _, op := range someOps() {
		for _, a := range someParts {
			want := answer{0, api.ErrOp}
			if slices.Contains(opsOf("Un"), op) {
				want = told(p.make(p.meant(api.Node{Op: op, A: a})))
			}
			wantSame(t, []int{op, a}, told(s.Un(op, a)), want)
			for _, b := range someParts {
				want := answer{0, api.ErrOp}
				if slices.Contains(opsOf("Bin"), op) {
					want = told(p.make(p.meant(api.Node{Op: op, A: a, B: b})))
				}
				wantSame(t, []int{op, a, b}, told(s.Bin(op, a, b)), want)
			}
		}
	}
	if s.Len() != 9 {
		t.Error(s.Len())
	}
}

// TestBinMakes: each operation of Un and Bin becomes the node of the table.
func TestBinMakes(t *testing.T) {
	s := empty(t, 0)
	put(t, s, variable("t", 0), variable("k", 8))
	for _, op := range opsOf("Bin") {
		part := 2
		if op <= api.OpXor {
			part = 1
		}
		n := api.Node{Op: op, A: part, B: part}
		switch {
		case op == api.OpCat:
			n.W = 16
		case op >= api.OpBand:
			n.W = 8
		}
		wantSame(t, op, told(s.Bin(op, part, part)), answer{s.Len(), api.OK})
		if got, _ := s.Node(s.Len()); got != n {
			t.Errorf("%+v, not %+v", got, n)
		}
	}
	for _, n := range []api.Node{{Op: api.OpNot, A: 1}, {Op: api.OpCom, W: 8, A: 2}, {Op: api.OpNeg, W: 8, A: 2}} {
		wantSame(t, n, told(s.Un(n.Op, n.A)), answer{s.Len(), api.OK})
		if got, _ := s.Node(s.Len()); got != n {
			t.Errorf("%+v, not %+v", got, n)
		}
	}
}

func TestIte(t *testing.T) {
	s, p := leaves(t)
	for _, c := range someParts {
		for _, a := range someParts {
			for _, b := range someParts {
				want := told(p.make(p.meant(api.Node{Op: api.OpIte, A: c, B: a, C: b})))
				wantSame(t, []int{c, a, b}, told(s.Ite(c, a, b)), want)
			}
		}
	}
	x := empty(t, 0)
	put(t, x, variable("t", 0), variable("k", 8), word(8, 3))
	wantSame(t, "words", told(x.Ite(1, 2, 3)), answer{4, api.OK})
	wantSame(t, "truths", told(x.Ite(1, 1, 1)), answer{5, api.OK})
	for i, want := range []api.Node{{Op: api.OpIte, W: 8, A: 1, B: 2, C: 3}, {Op: api.OpIte, A: 1, B: 1, C: 1}} {
		if got, _ := x.Node(4 + i); got != want {
			t.Errorf("%+v, not %+v", got, want)
		}
	}
}

func TestTruth(t *testing.T) {
	s := empty(t, 2)
	wantSame(t, true, told(s.Truth(true)), answer{1, api.OK})
	wantSame(t, false, told(s.Truth(false)), answer{2, api.OK})
	wantSame(t, true, told(s.Truth(true)), answer{1, api.OK})
	for i, op := range []int{api.OpTrue, api.OpFalse} {
		if n, _ := s.Node(i + 1); n != (api.Node{Op: op}) {
			t.Error(n)
		}
	}
	full := empty(t, 1)
	wantSame(t, false, told(full.Truth(false)), answer{1, api.OK})
	wantSame(t, true, told(full.Truth(true)), answer{0, api.ErrSize})
}

// TestConst: the lowest bits of a number.
func TestConst(t *testing.T) {
	s := empty(t, 0)
	for w := -2; w <= 67; w++ {
		for _, x := range []uint64{0, 1, 5, 0x103, 1 << 63, math.MaxUint64, math.MaxUint64 - 2} {
			got, e := s.Const(w, x)
			if w < 1 || w > 64 {
				wantSame(t, w, told(got, e), answer{0, api.ErrWidth})
				continue
			}
			if n, _ := s.Node(got); n != word(w, bits.Trim(w, x)) || e != api.OK {
				t.Errorf("Const(%d, %d) is %+v %v", w, x, n, e)
			}
		}
	}
	wantSame(t, "low bits", told(s.Const(4, 0xf5)), told(s.Const(4, 5)))
	for _, w := range []int{math.MinInt, math.MaxInt, 1<<32 + 8} {
		wantSame(t, w, told(s.Const(w, 1)), answer{0, api.ErrWidth})
	}
}

func TestVar(t *testing.T) {
	s := empty(t, 0)
	for _, w := range []int{-1, 65, math.MinInt, math.MaxInt} {
		wantSame(t, w, told(s.Var("k", w)), answer{0, api.ErrWidth})
		wantSame(t, w, told(s.Var("?", w)), answer{0, api.ErrWidth})
	}
	wantSame(t, "truth", told(s.Var("t", 0)), answer{1, api.OK})
	wantSame(t, "word", told(s.Var("k", 64)), answer{2, api.OK})
	wantSame(t, "word", told(s.Var("b", 1)), answer{3, api.OK})
	if n, _ := s.Node(2); n != variable("k", 64) {
		t.Error(n)
	}
}

func TestSlice(t *testing.T) {
	s, p := leaves(t)
	for _, a := range someParts {
		for _, from := range []int{math.MinInt, -64, -8, -1, 0, 1, 4, 7, 8, 59, 63, 64, math.MaxInt} {
			for _, n := range []int{math.MinInt, -1, 0, 1, 3, 4, 8, 9, 63, 64, 65, math.MaxInt} {
				want := told(p.make(api.Node{Op: api.OpSlice, W: n, A: a, Num: uint64(from)}))
				wantSame(t, []int{a, from, n}, told(s.Slice(a, from, n)), want)
			}
		}
	}
	const none, truth, byte8 = 99, 1, 2
	wantSame(t, "below 0", told(s.Slice(byte8, -1, 1)), answer{0, api.ErrWidth})
	wantSame(t, "below 0 of a truth", told(s.Slice(truth, -1, 1)), answer{0, api.ErrSort})
	wantSame(t, "below 0 of none", told(s.Slice(none, -1, 1)), answer{0, api.ErrTerm})
	x := empty(t, 0)
	put(t, x, variable("k", 8))
	wantSame(t, "upper half", told(x.Slice(1, 4, 4)), answer{2, api.OK})
	if n, _ := x.Node(2); n != (api.Node{Op: api.OpSlice, W: 4, A: 1, Num: 4}) {
		t.Error(n)
	}
}

func TestExt(t *testing.T) {
	s, p := leaves(t)
	for _, op := range someOps() {
		for _, a := range someParts {
			for _, w := range []int{math.MinInt, -1, 0, 1, 3, 4, 7, 8, 9, 60, 64, 65, math.MaxInt} {
				want := answer{0, api.ErrOp}
				if slices.Contains(opsOf("Ext"), op) {
					want = told(p.make(api.Node{Op: op, W: w, A: a}))
				}
				wantSame(t, []int{op, a, w}, told(s.Ext(op, a, w)), want)
			}
		}
	}
	x := empty(t, 0)
	put(t, x, variable("k", 8))
	for i, op := range opsOf("Ext") {
		for j, w := range []int{8, 9, 64} {
			wantSame(t, op, told(x.Ext(op, 1, w)), answer{2 + 3*i + j, api.OK})
			if n, _ := x.Node(x.Len()); n != (api.Node{Op: op, W: w, A: 1}) {
				t.Error(n)
			}
		}
		wantSame(t, "narrower", told(x.Ext(op, 1, 7)), answer{0, api.ErrWidth})
	}
}
