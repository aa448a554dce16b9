package eval

import (
	"math"
	"math/big"
	"slices"
	"testing"

	"cadence/api"
	"cadence/term"
)

// TestVars: each variable once, in the order of term.Order, truths and words.
func TestVars(t *testing.T) {
	s := empty(t, 0)
	c, x, y := variable(t, s, "c", 0), variable(t, s, "x", 8), variable(t, s, "y", 8)
	variable(t, s, "other", 8)
	sum := bin(t, s, api.OpSub, y, x)
	ite := mk(t, s, api.Node{Op: api.OpIte, W: 8, A: c, B: sum, C: x})
	cv, xv, yv := val("c", 0, 0), val("x", 8, 0), val("y", 8, 0)
	for _, v := range []struct {
		roots []int
		want  []api.Value
	}{
		{nil, nil}, {[]int{word(t, s, 8, 1)}, nil}, {[]int{x}, []api.Value{xv}}, {[]int{x, x}, []api.Value{xv}},
		{[]int{sum}, []api.Value{yv, xv}}, {[]int{x, sum}, []api.Value{xv, yv}}, {[]int{ite}, []api.Value{cv, yv, xv}},
		{[]int{sum, ite, c}, []api.Value{yv, xv, cv}}, {[]int{y, c, x}, []api.Value{yv, cv, xv}},
	} {
		if got, e := Vars(s, v.roots); !slices.Equal(got, v.want) || e != api.OK {
			t.Errorf("%v: %v %v, not %v", v.roots, got, e, v.want)
		}
	}
	p := picker(5)
	for range 100 {
		s := grown(t, &p, 100)
		roots := someRoots(&p, s)
		var want []api.Value
		for _, n := range varsOf(s, roots) {
			want = append(want, val(n.Name, n.W, 0))
		}
		if got, e := Vars(s, roots); !slices.Equal(got, want) || e != api.OK {
			t.Fatalf("%v: %v %v, not %v", roots, got, e, want)
		}
	}
}

func TestVarsErrors(t *testing.T) {
	x := newExample(t, 0)
	for _, roots := range [][]int{nil, {}, {0}, {1}} {
		if vars, e := Vars(nil, roots); len(vars) > 0 || e != api.ErrNil {
			t.Error(roots, vars, e)
		}
	}
	for _, no := range noTerms(x.s) {
		for _, roots := range [][]int{{no}, {x.a, no}, {no, x.a}, {no, 0, -1}} {
			if vars, e := Vars(x.s, roots); len(vars) > 0 || e != api.ErrTerm {
				t.Error(roots, vars, e)
			}
		}
	}
}

// treeOf: a term of just so many nodes.
func treeOf(t *testing.T, s *term.Store, nodes *big.Int) int {
	t.Helper()
	if nodes.Cmp(big.NewInt(1)) == 0 {
		return variable(t, s, "x", 8)
	}
	fewer := new(big.Int).Sub(nodes, big.NewInt(1))
	if nodes.Bit(0) == 0 {
		return un(t, s, api.OpNeg, treeOf(t, s, fewer))
	}
	half := treeOf(t, s, fewer.Rsh(fewer, 1))
	return bin(t, s, api.OpAdd, half, half)
}

// TestSizeGreat: trees around 2^64 - 1 nodes, and far beyond.
func TestSizeGreat(t *testing.T) {
	s := empty(t, 0)
	all := power(64)
	for _, c := range []struct {
		less int64
		want uint64
	}{
		{3, math.MaxUint64 - 2}, {2, math.MaxUint64 - 1}, {1, math.MaxUint64}, {0, math.MaxUint64}, {-1, math.MaxUint64}, {-2, math.MaxUint64},
	} {
		root := treeOf(t, s, new(big.Int).Sub(all, big.NewInt(c.less)))
		if _, nodes, _, e := Size(s, root); nodes != c.want || e != api.OK {
			t.Errorf("2^64 - %d: %d %v", c.less, nodes, e)
		}
	}
	// Two halves that fit, and one node more that does not; a third part beyond them.
	half := treeOf(t, s, power(63))
	c := bin(t, s, api.OpEq, half, half)
	x := variable(t, s, "x", 8)
	for _, n := range []api.Node{
		{Op: api.OpEq, A: half, B: half},
		{Op: api.OpIte, W: 8, A: c, B: x, C: x},
		{Op: api.OpIte, W: 8, A: bin(t, s, api.OpEq, x, x), B: half, C: half},
	} {
		if _, nodes, _, e := Size(s, mk(t, s, n)); nodes != math.MaxUint64 || e != api.OK {
			t.Error(n, nodes, e)
		}
	}
	root := x
	for range 500 {
		root = bin(t, s, api.OpMul, root, root)
	}
	if n, nodes, depth, e := Size(s, root); n != 501 || nodes != math.MaxUint64 || depth != 501 || e != api.OK {
		t.Error(n, nodes, depth, e)
	}
}

// TestSize: terms by hand, and mixed ones against calls within one another.
func TestSize(t *testing.T) {
	s := empty(t, 0)
	c, x := variable(t, s, "c", 0), variable(t, s, "x", 8)
	neg := un(t, s, api.OpNeg, x)
	left := mk(t, s, api.Node{Op: api.OpIte, W: 8, A: c, B: neg, C: x})
	right := mk(t, s, api.Node{Op: api.OpIte, W: 8, A: c, B: x, C: neg})
	deepA := mk(t, s, api.Node{Op: api.OpIte, A: bin(t, s, api.OpEq, left, right), B: c, C: c})
	for _, v := range []struct {
		t, n  int
		nodes uint64
		depth int
	}{
		{c, 1, 1, 1}, {x, 1, 1, 1}, {mk(t, s, api.Node{Op: api.OpTrue}), 1, 1, 1}, {word(t, s, 8, 1), 1, 1, 1},
		{neg, 2, 2, 2}, {left, 4, 5, 3}, {right, 4, 5, 3}, {deepA, 7, 14, 5},
	} {
		if n, nodes, depth, e := Size(s, v.t); n != v.n || nodes != v.nodes || depth != v.depth || e != api.OK {
			t.Errorf("%d: %d %d %d %v, not %v", v.t, n, nodes, depth, e, v)
		}
	}
	p := picker(3)
	for range 100 {
		s := grown(t, &p, 150)
		root := s.Len() - p.below(min(100, s.Len()))
		order, _ := s.Order(root)
		trees, depths := map[int]*big.Int{0: new(big.Int)}, map[int]int{}
		for _, x := range order {
			n := nodeOf(s, x)
			sum := big.NewInt(1)
			for _, part := range []int{n.A, n.B, n.C} {
				sum.Add(sum, trees[part])
			}
			trees[x] = sum
			depths[x] = 1 + max(depths[n.A], depths[n.B], depths[n.C])
		}
		n, nodes, depth, e := Size(s, root)
		if n != len(order) || !trees[root].IsUint64() || nodes != trees[root].Uint64() || depth != depths[root] || e != api.OK {
			t.Fatal(n, nodes, depth, e, len(order), trees[root], depths[root])
		}
	}
}

func TestSizeErrors(t *testing.T) {
	x := newExample(t, 0)
	for _, no := range append(noTerms(x.s), x.a) {
		if n, nodes, depth, e := Size(nil, no); n != 0 || nodes != 0 || depth != 0 || e != api.ErrNil {
			t.Error(no, n, nodes, depth, e)
		}
	}
	for _, no := range noTerms(x.s) {
		if n, nodes, depth, e := Size(x.s, no); n != 0 || nodes != 0 || depth != 0 || e != api.ErrTerm {
			t.Error(no, n, nodes, depth, e)
		}
	}
}
