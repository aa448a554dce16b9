package eval

import (
	"fmt"
	"math"
	"slices"
	"testing"

	"cadence/api"
	"cadence/term"
)

// TestExamples: those of the chapter.
func TestExamples(t *testing.T) {
	x := newExample(t, 0)
	for _, c := range []struct {
		t    int
		vals []api.Value
		want uint64
		e    api.Errno
	}{
		{x.a, []api.Value{val("x", 8, 200), val("y", 8, 100)}, 44, api.OK},
		{x.a, []api.Value{val("y", 8, 100)}, 100, api.OK},
		{x.q, nil, 1, api.OK},
		{x.a, []api.Value{val("x", 8, 300)}, 0, api.ErrWidth},
		{x.a, []api.Value{val("x", 4, 1)}, 0, api.ErrSort},
		{x.a, []api.Value{val("z", 4, 1)}, 0, api.OK},
		{99, nil, 0, api.ErrTerm},
	} {
		wantValue(t, x.s, c.t, c.vals, c.want, c.e)
	}
	wantValue(t, nil, 1, nil, 0, api.ErrNil)
	if vars, e := Vars(x.s, []int{x.q}); !slices.Equal(vars, []api.Value{val("x", 8, 0), val("y", 8, 0)}) || e != api.OK {
		t.Error(vars, e)
	}
	if n, nodes, depth, e := Size(x.s, x.q); n != 4 || nodes != 5 || depth != 3 || e != api.OK {
		t.Error(n, nodes, depth, e)
	}
	got := told(Put(x.s, []int{x.a}, []string{"y"}, []int{x.x}))
	wantTerms(t, "Put", got, bin(t, x.s, api.OpAdd, x.x, x.x))
	got = told(Split(x.s, []int{x.q}, []string{"y"}, "_2"))
	y2 := variable(t, x.s, "y_2", 8)
	wantTerms(t, "Split", got, bin(t, x.s, api.OpEq, bin(t, x.s, api.OpAdd, x.x, y2), x.x))
	wantRefused(t, "Put", told(Put(x.s, []int{x.a}, []string{"y", "y"}, []int{x.x, x.x})), api.ErrName)
}

// wantValue holds Value, and Values of the one, against what they must tell.
func wantValue(t *testing.T, s *term.Store, root int, vals []api.Value, want uint64, e api.Errno) {
	t.Helper()
	if got, bad := Value(s, root, vals); got != want || bad != e {
		t.Errorf("Value of %d with %v: %d %v, not %d %v", root, vals, got, bad, want, e)
	}
	list, bad := Values(s, []int{root}, vals)
	if bad != e || e == api.OK && !slices.Equal(list, []uint64{want}) || e != api.OK && len(list) > 0 {
		t.Errorf("Values of %d with %v: %v %v, not %d %v", root, vals, list, bad, want, e)
	}
}

// edges: words of a width that its operations could take wrong.
func edges(w int) []uint64 {
	top := ^uint64(0) >> (64 - w)
	all := []uint64{0, 1, 2, 3, 7, 8, 9, 63, 64, 65, 100, 200, top >> 1, top>>1 + 1, top - 1, top, 0x0123456789abcdef & top}
	all = slices.DeleteFunc(all, func(x uint64) bool { return x > top })
	slices.Sort(all)
	return slices.Compact(all)
}

// TestEachOperation: each of the 33, with words of 1, 8 and 64 bits and with truths, against whole numbers.
func TestEachOperation(t *testing.T) {
	asked := map[int]int{}
	for _, w := range []int{0, 1, 8, 64} {
		s := empty(t, 0)
		x, y, c := variable(t, s, "x", w), variable(t, s, "y", w), variable(t, s, "c", 0)
		one := variable(t, s, "one", 1)
		s.Truth(true)
		s.Truth(false)
		s.Const(w, 1)
		for op := 1; op <= api.OpLast; op++ {
			s.Un(op, x)
			s.Bin(op, x, y)
			s.Bin(op, one, x)
			s.Bin(op, x, one)
			s.Ext(op, x, w)
			s.Ext(op, x, 64)
			s.Ext(op, x, w+3)
		}
		s.Ite(c, x, y)
		s.Ite(c, y, x)
		for _, from := range []int{0, 1, w / 2, w - 1} {
			s.Slice(x, from, 1)
			s.Slice(x, from, w/2)
			s.Slice(x, from, w-from)
		}
		values := []uint64{0, 1}
		if w > 0 {
			values = edges(w)
		}
		for _, a := range values {
			for _, b := range values {
				for _, of := range []uint64{0, 1} {
					vals := []api.Value{val("x", w, a), val("y", w, b), val("c", 0, of), val("one", 1, of)}
					for root := 1; root <= s.Len(); root++ {
						asked[nodeOf(s, root).Op]++
						want := plainValue(s, root, vals)
						if got, e := Value(s, root, vals); got != want || e != api.OK {
							t.Fatalf("%+v with %v: %d %v, not %d", nodeOf(s, root), vals, got, e, want)
						}
					}
				}
			}
		}
	}
	for op := 1; op <= 33; op++ {
		if asked[op] == 0 {
			t.Errorf("the operation %d was not asked", op)
		}
	}
}

// TestOperationsByHand: values that are written out, among them quotients by 0 and shifts by more than the width.
func TestOperationsByHand(t *testing.T) {
	const top = math.MaxUint64
	for _, c := range []struct {
		op, w   int
		x, y, z uint64
	}{
		{api.OpAnd, 0, 1, 0, 0}, {api.OpAnd, 0, 1, 1, 1}, {api.OpOr, 0, 1, 0, 1}, {api.OpOr, 0, 0, 0, 0},
		{api.OpXor, 0, 1, 1, 0}, {api.OpXor, 0, 0, 1, 1}, {api.OpEq, 0, 0, 0, 1}, {api.OpEq, 0, 0, 1, 0},
		{api.OpEq, 64, top, top, 1}, {api.OpEq, 8, 3, 131, 0},
		{api.OpUlt, 8, 255, 0, 0}, {api.OpUlt, 1, 0, 1, 1}, {api.OpUle, 8, 7, 7, 1}, {api.OpUle, 64, top, 1, 0},
		{api.OpSlt, 8, 255, 0, 1}, {api.OpSlt, 1, 1, 0, 1}, {api.OpSlt, 64, 1 << 63, 0, 1}, {api.OpSlt, 8, 127, 128, 0},
		{api.OpSle, 8, 128, 128, 1}, {api.OpSle, 64, 0, top, 0}, {api.OpSle, 1, 0, 1, 0},
		{api.OpBand, 8, 12, 10, 8}, {api.OpBor, 8, 12, 10, 14}, {api.OpBxor, 8, 12, 10, 6},
		{api.OpAdd, 8, 200, 100, 44}, {api.OpAdd, 64, top, 1, 0}, {api.OpAdd, 1, 1, 1, 0},
		{api.OpSub, 8, 1, 2, 255}, {api.OpSub, 64, 0, 1, top}, {api.OpMul, 8, 16, 17, 16}, {api.OpMul, 64, top, top, 1},
		{api.OpDiv, 8, 7, 0, 255}, {api.OpDiv, 64, 7, 0, top}, {api.OpDiv, 1, 0, 0, 1}, {api.OpDiv, 8, 200, 7, 28},
		{api.OpRem, 8, 7, 0, 7}, {api.OpRem, 64, top, 0, top}, {api.OpRem, 1, 1, 0, 1}, {api.OpRem, 8, 200, 7, 4},
		{api.OpShl, 8, 3, 9, 6}, {api.OpShl, 64, 1, 127, 1 << 63}, {api.OpShl, 1, 1, 1, 1},
		{api.OpShr, 8, 0x90, 12, 9}, {api.OpShr, 64, top, 64, top}, {api.OpSar, 8, 0x90, 4, 0xf9}, {api.OpSar, 64, 1 << 63, 127, top},
		{api.OpRol, 4, 9, 1, 3}, {api.OpRol, 64, 1 << 63, 65, 1}, {api.OpRor, 8, 1, 9, 128}, {api.OpRor, 64, 1, 64, 1},
		{api.OpCat, 8, 0xab, 0xcd, 0xabcd}, {api.OpCat, 32, 1, 2, 1<<32 | 2}, {api.OpCat, 1, 1, 0, 2},
	} {
		s := empty(t, 0)
		root := bin(t, s, c.op, variable(t, s, "x", c.w), variable(t, s, "y", c.w))
		wantValue(t, s, root, []api.Value{val("x", c.w, c.x), val("y", c.w, c.y)}, c.z, api.OK)
	}
	s := empty(t, 0)
	c, k := variable(t, s, "c", 0), variable(t, s, "k", 12)
	vals := []api.Value{val("k", 12, 0xabc), val("c", 0, 1)}
	for _, c := range []struct {
		n    api.Node
		want uint64
	}{
		{api.Node{Op: api.OpTrue}, 1}, {api.Node{Op: api.OpFalse}, 0},
		{api.Node{Op: api.OpConst, W: 64, Num: math.MaxUint64}, math.MaxUint64},
		{api.Node{Op: api.OpVar, W: 12, Name: "k"}, 0xabc}, {api.Node{Op: api.OpVar, Name: "c"}, 1},
		{api.Node{Op: api.OpVar, W: 64, Name: "untold"}, 0}, {api.Node{Op: api.OpVar, Name: "no"}, 0},
		{api.Node{Op: api.OpNot, A: c}, 0}, {api.Node{Op: api.OpCom, W: 12, A: k}, 0x543}, {api.Node{Op: api.OpNeg, W: 12, A: k}, 0x544},
		{api.Node{Op: api.OpSlice, W: 4, A: k, Num: 4}, 0xb}, {api.Node{Op: api.OpSlice, W: 12, A: k}, 0xabc},
		{api.Node{Op: api.OpZext, W: 64, A: k}, 0xabc}, {api.Node{Op: api.OpSext, W: 16, A: k}, 0xfabc}, {api.Node{Op: api.OpSext, W: 12, A: k}, 0xabc},
		{api.Node{Op: api.OpIte, W: 12, A: c, B: k, C: mk(t, s, api.Node{Op: api.OpNeg, W: 12, A: k})}, 0xabc},
		{api.Node{Op: api.OpIte, W: 12, A: mk(t, s, api.Node{Op: api.OpNot, A: c}), B: k, C: mk(t, s, api.Node{Op: api.OpCom, W: 12, A: k})}, 0x543},
		{api.Node{Op: api.OpIte, A: c, B: mk(t, s, api.Node{Op: api.OpFalse}), C: c}, 0},
	} {
		wantValue(t, s, mk(t, s, c.n), vals, c.want, api.OK)
	}
}

// TestValuesErrors: each error, and the one that comes first where two apply.
func TestValuesErrors(t *testing.T) {
	x := newExample(t, 0)
	before := shown(x.s)
	type vals = []api.Value
	for _, c := range []struct {
		what  string
		s     *term.Store
		roots []int
		vals  vals
		want  api.Errno
	}{
		{"nil", nil, nil, nil, api.ErrNil},
		{"nil ahead of no term", nil, []int{0}, nil, api.ErrNil},
		{"nil ahead of all", nil, []int{0}, vals{val("", 65, 9)}, api.ErrNil},
		{"no term, the last", x.s, []int{x.a, x.q, 5}, nil, api.ErrTerm},
		{"no term, the first of several", x.s, []int{0, x.q, 5}, nil, api.ErrTerm},
		{"no term ahead of no name", x.s, []int{x.a, 0}, vals{val("1", 8, 1)}, api.ErrTerm},
		{"no term ahead of no width", x.s, []int{0}, vals{val("x", 65, 1)}, api.ErrTerm},
		{"no term ahead of another sort", x.s, []int{x.a, 0}, vals{val("x", 4, 1)}, api.ErrTerm},
		{"a name twice", x.s, []int{x.a}, vals{val("x", 8, 1), val("y", 8, 1), val("x", 8, 1)}, api.ErrName},
		{"a name twice that the roots have not", x.s, []int{x.a}, vals{val("z", 8, 1), val("z", 8, 1)}, api.ErrName},
		{"a name twice of two sorts", x.s, []int{x.a}, vals{val("x", 8, 1), val("x", 4, 1)}, api.ErrName},
		{"a name twice, no root", x.s, nil, vals{val("x", 8, 1), val("x", 8, 1)}, api.ErrName},
		{"no name ahead of no width", x.s, []int{x.a}, vals{val("x", 65, 1), val("1", 8, 1)}, api.ErrName},
		{"no name, of no width", x.s, []int{x.a}, vals{val("1", 65, 1)}, api.ErrName},
		{"a name twice ahead of no width", x.s, []int{x.a}, vals{val("x", -1, 1), val("x", -1, 1)}, api.ErrName},
		{"a name twice ahead of too great", x.s, []int{x.a}, vals{val("x", 8, 256), val("y", 8, 1), val("y", 8, 1)}, api.ErrName},
		{"no name ahead of another sort", x.s, []int{x.a}, vals{val("x", 4, 1), val("1", 4, 1)}, api.ErrName},
		{"no width, no root", x.s, nil, vals{val("x", 65, 1)}, api.ErrWidth},
		{"no width that the roots have not", x.s, []int{x.a}, vals{val("z", 65, 1)}, api.ErrWidth},
		{"no width ahead of another sort", x.s, []int{x.a}, vals{val("x", 4, 1), val("y", 65, 0)}, api.ErrWidth},
		{"too great ahead of another sort", x.s, []int{x.a}, vals{val("x", 4, 1), val("z", 4, 16)}, api.ErrWidth},
		{"too great for its own sort ahead of that", x.s, []int{x.a}, vals{val("x", 4, 16)}, api.ErrWidth},
		{"another sort", x.s, []int{x.a}, vals{val("x", 8, 1), val("y", 9, 1)}, api.ErrSort},
		{"a truth for a word", x.s, []int{x.a}, vals{val("x", 0, 1)}, api.ErrSort},
		{"another sort at the second root", x.s, []int{x.x, x.a}, vals{val("y", 4, 1)}, api.ErrSort},
		{"another sort that this root has not", x.s, []int{x.x}, vals{val("y", 4, 1)}, api.OK},
		{"another sort that no root has", x.s, nil, vals{val("x", 4, 1), val("y", 0, 1)}, api.OK},
	} {
		list, e := Values(c.s, c.roots, c.vals)
		if e != c.want || e != api.OK && len(list) > 0 || e == api.OK && len(list) != len(c.roots) {
			t.Errorf("%s: %v %v, not %v", c.what, list, e, c.want)
		}
	}
	for _, no := range noTerms(x.s) {
		wantValue(t, x.s, no, nil, 0, api.ErrTerm)
		if list, e := Values(x.s, []int{x.a, no, 0}, nil); len(list) > 0 || e != api.ErrTerm {
			t.Error(no, list, e)
		}
	}
	for _, name := range noNames {
		wantValue(t, x.s, x.a, vals{val("x", 8, 3), val(name, 8, 1)}, 0, api.ErrName)
	}
	if shown(x.s) != before {
		t.Error("the store has changed")
	}
}

// TestValuesWidths: W at its edges, and Num that just fits, and just not.
func TestValuesWidths(t *testing.T) {
	for _, c := range []struct {
		w   int
		num uint64
		e   api.Errno
	}{
		{-1, 0, api.ErrWidth}, {math.MinInt, 0, api.ErrWidth}, {65, 0, api.ErrWidth}, {math.MaxInt, 0, api.ErrWidth},
		{0, 0, api.OK}, {0, 1, api.OK}, {0, 2, api.ErrWidth}, {0, math.MaxUint64, api.ErrWidth},
		{1, 0, api.OK}, {1, 1, api.OK}, {1, 2, api.ErrWidth},
		{8, 255, api.OK}, {8, 256, api.ErrWidth}, {63, 1<<63 - 1, api.OK}, {63, 1 << 63, api.ErrWidth},
		{64, 1 << 63, api.OK}, {64, math.MaxUint64, api.OK},
	} {
		s := empty(t, 0)
		other := word(t, s, 3, 5)
		vals := []api.Value{val("x", c.w, c.num)}
		want := uint64(5)
		if c.e != api.OK {
			want = 0
		}
		wantValue(t, s, other, vals, want, c.e)
		if x, e := s.Var("x", c.w); e == api.OK {
			want := c.num
			if c.e != api.OK {
				want = 0
			}
			wantValue(t, s, x, vals, want, c.e)
		}
	}
}

// TestValuesRoots: no root, one root twice, roots out of order.
func TestValuesRoots(t *testing.T) {
	x := newExample(t, 0)
	vals := []api.Value{val("x", 8, 5), val("y", 8, 7)}
	for _, c := range []struct {
		roots []int
		want  []uint64
	}{
		{nil, nil}, {[]int{}, nil}, {[]int{x.a, x.a}, []uint64{12, 12}},
		{[]int{x.q, x.a, x.y, x.x}, []uint64{0, 12, 7, 5}}, {[]int{x.y, x.q, x.y, x.a}, []uint64{7, 0, 7, 12}},
	} {
		if got, e := Values(x.s, c.roots, vals); !slices.Equal(got, c.want) || e != api.OK {
			t.Errorf("%v: %v %v, not %v", c.roots, got, e, c.want)
		}
	}
	if got, e := Values(empty(t, 0), nil, vals); len(got) > 0 || e != api.OK {
		t.Error(got, e)
	}
}

// TestValuesAgainstPlain: mixed terms, dense among the store's and few of very many.
func TestValuesAgainstPlain(t *testing.T) {
	p := picker(11)
	for round := range 300 {
		s := grown(t, &p, 20+round)
		for range 6 {
			roots := someRoots(&p, s)
			vals := somethingTold(&p, s, roots)
			got, e := Values(s, roots, vals)
			var want []uint64
			for _, root := range roots {
				want = append(want, plainValue(s, root, vals))
			}
			if !slices.Equal(got, want) || e != api.OK {
				t.Fatalf("%v with %v: %v %v, not %v", roots, vals, got, e, want)
			}
		}
	}
}

// TestDeep: terms that are nested very deep.
func TestDeep(t *testing.T) {
	const deep = 1 << 18
	s := empty(t, 0)
	k := variable(t, s, "k", 64)
	top := k
	for range deep {
		top = un(t, s, api.OpNeg, top)
	}
	wantValue(t, s, top, []api.Value{val("k", 64, 77)}, 77, api.OK)
	wantValue(t, s, top-1, []api.Value{val("k", 64, 1)}, math.MaxUint64, api.OK)
	if n, nodes, depth, e := Size(s, top); n != deep+1 || nodes != deep+1 || depth != deep+1 || e != api.OK {
		t.Error(n, nodes, depth, e)
	}
	if vars, e := Vars(s, []int{top}); !slices.Equal(vars, []api.Value{val("k", 64, 0)}) || e != api.OK {
		t.Error(vars, e)
	}
	into := empty(t, 0)
	made, e := Carry(s, []int{top}, into)
	wantTerms(t, "Carry", told(made, e), deep+1)
	if into.Len() != deep+1 {
		t.Error(into.Len())
	}
	wantTerms(t, "Put", told(Put(s, []int{top}, []string{"k"}, []int{k + 1})), top+1)
	wantTerms(t, "Split", told(Split(s, []int{top}, []string{"k"}, "2")), top+2+deep)
}

// TestFewOfMany: a small term at the end of a great store is told without going through the store.
func TestFewOfMany(t *testing.T) {
	s := empty(t, 0)
	x := variable(t, s, "x", 64)
	for i := range 200000 {
		word(t, s, 64, uint64(i))
	}
	top := bin(t, s, api.OpAdd, x, word(t, s, 64, 199999))
	for i := range 2000 {
		if got, e := Value(s, top, []api.Value{val("x", 64, uint64(i))}); got != uint64(199999+i) || e != api.OK {
			t.Fatal(got, e)
		}
	}
}

// TestNotes: the list and the table tell the same.
func TestNotes(t *testing.T) {
	for _, terms := range [][]int{nil, {1}, {sparse}, {2*sparse - 1}, {2 * sparse}, {1, 3*sparse - 1}, {3 * sparse, 1}, {7, 100000, 3}} {
		k := newNotes[int](terms)
		for i, x := range terms {
			k.set(x, i+1)
		}
		for i, x := range terms {
			if k.at(x) != i+1 {
				t.Error(terms, x, k.at(x))
			}
		}
		if k.at(0) != 0 {
			t.Error(terms, "the note of no term is", k.at(0))
		}
		if got, want := fmt.Sprint(k.all(terms)), fmt.Sprint([]int{1, 2, 3}[:len(terms)]); got != want {
			t.Error(terms, got, want)
		}
		if room := 2 * sparse * (len(terms) + 1); len(k.list) > room {
			t.Error(terms, "a list of", len(k.list))
		}
	}
}
