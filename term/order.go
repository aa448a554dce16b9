package term

import (
	"slices"

	"cadence/api"
)

// Order: what roots lead to, each term once, its parts ahead of it (P705).
func (s *Store) Order(roots ...int) ([]int, api.Errno) {
	for _, t := range roots {
		if !s.has(t) {
			return nil, api.ErrTerm
		}
	}
	if len(roots) == 0 {
		return nil, api.OK
	}
	// No part has a greater number than its term, so no mark beyond the greatest root is needed.
	w := walk{store: s, told: make([]uint64, slices.Max(roots)/wordBits+1)}
	for _, t := range roots {
		w.from(t)
	}
	return w.order, api.OK
}

// wordBits: how many marks lie in a word.
const wordBits = 64

// walk: a way through terms, depth first.
type walk struct {
	store *Store
	told  []uint64 // a bit for each term: it is in order
	order []int
	path  []int // from a root on, each a part of the one ahead; none is told yet
}

// from goes through what a root leads to. The path is a list, since terms may be deeper than calls can be nested.
func (w *walk) from(root int) {
	if w.isTold(root) {
		return
	}
	w.path = append(w.path, root)
	for len(w.path) > 0 {
		t := w.path[len(w.path)-1]
		if part := w.untoldPart(t); part > 0 {
			w.path = append(w.path, part)
			continue
		}
		w.path = w.path[:len(w.path)-1]
		w.told[t/wordBits] |= 1 << (t % wordBits)
		w.order = append(w.order, t)
	}
}

func (w *walk) isTold(t int) bool { return w.told[t/wordBits]>>(t%wordBits)&1 == 1 }

// untoldPart: the first part of a term that is not told yet; 0, if all are.
func (w *walk) untoldPart(t int) int {
	n := &w.store.nodes[t-1]
	for _, part := range [...]int{n.A, n.B, n.C} {
		if part > 0 && !w.isTold(part) {
			return part
		}
	}
	return 0
}
