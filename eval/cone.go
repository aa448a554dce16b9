package eval

import (
	"iter"

	"cadence/api"
	"cadence/term"
)

// cone: the terms of a store that some roots lead to, parts ahead of what they are parts of.
type cone struct {
	store *term.Store
	order []int
}

// coneOf: of roots, which may be no terms.
func coneOf(s *term.Store, roots []int) (cone, api.Errno) {
	if s == nil {
		return cone{}, api.ErrNil
	}
	order, e := s.Order(roots...)
	return cone{store: s, order: order}, e
}

// nodes goes through the terms in order, each with its node.
func (c cone) nodes() iter.Seq2[int, api.Node] {
	return func(yield func(int, api.Node) bool) {
		for _, t := range c.order {
			n, _ := c.store.Node(t)
			if !yield(t, n) {
				return
			}
		}
	}
}

// vars: the variables among the terms, in order.
func (c cone) vars() []api.Value {
	var vars []api.Value
	for _, n := range c.nodes() {
		if n.Op == api.OpVar {
			vars = append(vars, api.Value{Name: n.Name, W: n.W})
		}
	}
	return vars
}

// widthOf: W of a term.
func widthOf(s *term.Store, t int) int {
	n, _ := s.Node(t)
	return n.W
}

// notes: one thing for each of some terms.
type notes[T any] struct {
	list  []T       // by terms' numbers
	table map[int]T // instead of the list, where it would have a place for far more terms than there are
}

// sparse: of how many terms just one may be noted in a list.
const sparse = 16

// newNotes: without a note yet, for these terms alone.
func newNotes[T any](terms []int) notes[T] {
	top := 0
	for _, t := range terms {
		top = max(top, t)
	}
	if top/sparse > len(terms) {
		return notes[T]{table: make(map[int]T, len(terms))}
	}
	return notes[T]{list: make([]T, top+1)}
}

func (k notes[T]) set(t int, x T) {
	if k.table != nil {
		k.table[t] = x
		return
	}
	k.list[t] = x
}

// at: the note of a term; the zero one of the number 0, which stands for a part that there is not.
func (k notes[T]) at(t int) T {
	if k.table != nil {
		return k.table[t]
	}
	return k.list[t]
}

// all: the notes of several terms.
func (k notes[T]) all(terms []int) []T {
	list := make([]T, len(terms))
	for i, t := range terms {
		list[i] = k.at(t)
	}
	return list
}
