package aig

import (
	"fmt"
	"slices"
	"testing"

	"cadence/api"
)

// TestGatesAreOnce: P1002, and that operands are literals of lesser nodes.
func TestGatesAreOnce(t *testing.T) {
	r := picker(10)
	for round := range 200 {
		g, p := grown(t, &r, 1+r.below(3), round)
		g.Lay(g, p.literals(&r, g.Inputs()), p.literals(&r, 3))
		seen := map[api.Gate]int{}
		for n := range g.Nodes() {
			kind, gate, _ := g.Node(n)
			if kind != 2 {
				continue
			}
			seen[gate]++
			if seen[gate] > 1 || gate.A < 2 || gate.B < 2 || gate.A/2 == gate.B/2 || int(gate.A/2) >= n || int(gate.B/2) >= n {
				t.Fatalf("node %d: %v", n, gate)
			}
		}
	}
}

// TestAnswersAreTheCallers: written over and grown, they change nothing.
func TestAnswersAreTheCallers(t *testing.T) {
	g := crossed(t)
	there := look(t, g)
	roots := []uint32{10, 12, 7}
	ask := func() string {
		cone, _ := g.Cone(roots)
		values, _ := g.Eval([]bool{true, false, true}, roots)
		words, _ := g.Sim([]uint64{1, 2, 3}, roots)
		laid, _ := g.Lay(g, []uint32{2, 4, 12}, roots)
		text, _ := g.Print(roots)
		h, read, _, _ := Parse(text)
		told := fmt.Sprint(cone, values, words, laid, read, look(t, h))
		spoil(cone, -7)
		spoil(values, true)
		spoil(words, 99)
		spoil(laid, 99)
		spoil(read, 99)
		same(t, "the graph that was read", look(t, h), "0 i0 i1 i2 2*4 8*3 11*9")
		return told
	}
	first := ask()
	same(t, "asked again", ask(), first)
	same(t, "nodes", look(t, g), there)
	same(t, "roots", roots, []uint32{10, 12, 7})
}

// spoil writes over a list and its spare room.
func spoil[T any](list []T, with T) {
	list = list[:cap(list)]
	for i := range list {
		list[i] = with
	}
	_ = append(list, with)
}

// lend: a copy with spare room behind it, and a check that neither was changed.
func lend[T comparable](t *testing.T, list []T, spare T) ([]T, func()) {
	whole := append(slices.Clone(list), spare, spare)
	return whole[:len(list)], func() {
		t.Helper()
		if !slices.Equal(whole, append(slices.Clone(list), spare, spare)) {
			t.Errorf("changed: %v", whole)
		}
	}
}

// TestArgumentsAreNotChangedAndNotKept: their spare room neither.
func TestArgumentsAreNotChangedAndNotKept(t *testing.T) {
	g := crossed(t)
	roots, check1 := lend(t, []uint32{10, 13, 7}, 98)
	in, check2 := lend(t, []uint32{4, 2, 13}, 98)
	values, check3 := lend(t, []bool{true, false, true}, true)
	words, check4 := lend(t, []uint64{1, 2, 3}, 98)
	cone, _ := g.Cone(roots)
	g.Depth(roots)
	told, _ := g.Eval(values, roots)
	simmed, _ := g.Sim(words, roots)
	g.Print(roots)
	laid, _ := g.Lay(g, in, roots)
	all, _ := g.All(roots)
	for _, check := range []func(){check1, check2, check3, check4} {
		check()
	}
	there := look(t, g)
	was := fmt.Sprint(cone, told, simmed, laid, all)
	spoil(roots, 0)
	spoil(in, 0)
	spoil(values, false)
	spoil(words, 0)
	same(t, "answers", fmt.Sprint(cone, told, simmed, laid, all), was)
	same(t, "nodes", look(t, g), there)
}

// TestRootsAndAnswersShareNothing: where the answer is what was handed in.
func TestRootsAndAnswersShareNothing(t *testing.T) {
	g := graphOf(t, 2)
	roots, in := []uint32{2, 4}, []uint32{2, 4}
	laid, _ := g.Lay(g, in, roots)
	words := []uint64{5, 6}
	told, _ := g.Sim(words, roots)
	spoil(laid, 99)
	spoil(told, 99)
	same(t, "handed in", []any{roots, in, words}, []any{[]int{2, 4}, []int{2, 4}, []int{5, 6}})
}

// TestAskingChangesNothing: what was asked of a graph ahead does not show in later answers.
func TestAskingChangesNothing(t *testing.T) {
	r := picker(11)
	g, p := grown(t, &r, 4, 80)
	there := look(t, g)
	for range 50 {
		roots := p.literals(&r, 3)
		g.Cone(roots)
		g.Depth(roots)
		g.Eval(bools(&r, p.inputs()), roots)
		g.Sim(rows(&r, p.inputs()), roots)
		g.Print(roots)
		g.And(1<<31, 2)
		g.Lay(g, nil, roots)
		g.Node(-1)
	}
	same(t, "nodes", look(t, g), there)
	same(t, "Print", fmt.Sprint(g.Print([]uint32{9})), fmt.Sprint(p.print([]uint32{9}), api.OK))
}
