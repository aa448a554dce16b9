package mem

import (
	"fmt"
	"testing"

	"cadence/api"
	"cadence/simp"
)

// A script: what is asked of arrays, one thing behind the other. Terms are told by their places in a list that grows by what is loaded.

// The kinds of a script's steps.
const (
	aLoad  = iota // what is loaded from the array at i comes to the list
	aStore        // v at i
	aClone        // a new array, behind the others
)

type step struct {
	kind, array, i, v int
}

type script struct {
	width, size int
	cells       []int // of the first array, as places in the list
	pool        []api.Node
	steps       []step
}

// shown: a script as text.
func (s *script) shown() string {
	return fmt.Sprintf("%d words of %d bits, cells %v, terms %+v, steps %+v", s.size, s.width, s.cells, s.pool, s.steps)
}

// someScript: one of many; its terms are nodes over the places of the list.
func someScript(p *picker) *script {
	s := &script{width: pick(p, 1, 2, 2, 3, 4, 4, 5, 8, 9, 16, 33, 64), size: pick(p, 1, 2, 2, 4, 4, 8, 8, 16, 32, pick(p, 64, 128, 256))}
	s.pool = somePool(p, s.width)
	for range s.size {
		s.cells = append(s.cells, p.below(len(s.pool)))
	}
	if p.below(4) == 0 { // few unlike cells, in a row or in turn
		every := pick(p, 1, 2, 4)
		for n := range s.cells {
			s.cells[n] = n / every % 2
		}
	}
	arrays, known := 1, len(s.pool)
	for range 1 + p.below(10) {
		x := step{kind: pick(p, aLoad, aLoad, aStore, aStore, aStore, aClone), array: p.below(arrays), i: p.below(known), v: p.below(known)}
		switch x.kind {
		case aLoad:
			known++
		case aClone:
			arrays++
		}
		s.steps = append(s.steps, x)
	}
	return s
}

// somePool: nodes of words of one width: variables, constants, sums and the like, and ones whose lowest bits, or some of them, are constants.
func somePool(p *picker, w int) []api.Node {
	var pool []api.Node
	for _, name := range []string{"a", "b", "c", "d"} {
		pool = append(pool, api.Node{Op: api.OpVar, W: w, Name: name})
	}
	for range 5 {
		pool = append(pool, api.Node{Op: api.OpConst, W: w, Num: someWord(p, w)})
	}
	for range 9 {
		op := pick(p, api.OpAdd, api.OpSub, api.OpBxor, api.OpBand, api.OpBor, api.OpCom, api.OpNeg, api.OpMul)
		n := api.Node{Op: op, W: w, A: p.below(len(pool))}
		if op != api.OpCom && op != api.OpNeg {
			n.B = p.below(len(pool))
		}
		pool = append(pool, n)
	}
	for range 4 { // of two pieces, of which one may be a constant's
		pool = append(pool, api.Node{Op: api.OpCat, W: w, A: p.below(len(pool)), B: p.below(len(pool)), Num: uint64(p.below(w))})
	}
	return pool
}

// someWord: more often than not an edge.
func someWord(p *picker, w int) uint64 {
	top := ^uint64(0) >> (64 - w)
	return pick(p, 0, 1, 2, 3, top, top-1, top>>1, 1<<p.below(w), p.next(), p.next(), p.next()) & top
}

// poolTerms: the terms of a pool, made by a maker. A cat is of the Num lowest bits of B, under as many of A as there is room for.
func poolTerms(t testing.TB, m *simp.Maker, pool []api.Node) []int {
	t.Helper()
	var terms []int
	for _, n := range pool {
		var made int
		var e api.Errno
		switch n.Op {
		case api.OpVar, api.OpConst:
			made, e = m.Make(n)
		case api.OpCom, api.OpNeg:
			made, e = m.Un(n.Op, terms[n.A])
		case api.OpCat:
			made = terms[n.A]
			if n.Num > 0 {
				upper, _ := m.Slice(terms[n.A], 0, n.W-int(n.Num))
				lower, _ := m.Slice(terms[n.B], 0, int(n.Num))
				made, e = m.Bin(api.OpCat, upper, lower)
			}
		default:
			made, e = m.Bin(n.Op, terms[n.A], terms[n.B])
		}
		if e != api.OK {
			t.Fatal(n, e)
		}
		terms = append(terms, made)
	}
	return terms
}

// played: what came of a script: all terms of the list, and the arrays.
type played struct {
	maker  *simp.Maker
	terms  []int
	arrays []*Array
}

// play goes through a script; of what is handed in beside it each is called ahead of each step.
func play(t testing.TB, s *script, ahead ...func(a *Array, i, v int)) played {
	t.Helper()
	m := simp.New()
	r := played{maker: m, terms: poolTerms(t, m, s.pool)}
	var cells []int
	for _, c := range s.cells {
		cells = append(cells, r.terms[c])
	}
	r.arrays = append(r.arrays, arrayOf(t, m, cells...))
	for _, x := range s.steps {
		a := r.arrays[x.array]
		for _, call := range ahead {
			call(a, r.terms[x.i], r.terms[x.v])
		}
		switch x.kind {
		case aLoad:
			r.terms = append(r.terms, load(t, a, r.terms[x.i]))
		case aStore:
			store(t, a, r.terms[x.i], r.terms[x.v])
		default:
			r.arrays = append(r.arrays, a.Clone())
		}
	}
	return r
}
