package simp

import (
	"strconv"

	"cadence/api"
	"cadence/term"
)

// Whether a node is refused hangs on its parts' sorts alone, and on whether they are terms. So it is asked of a store in which one variable stands for all terms of its sort: the maker's own store would keep each node that it was asked about.

// refusals: a store with a variable of each sort, and without room for more: api.ErrSize is what it answers of a node that is right.
func (m *Maker) refusals() *term.Store {
	if m.samples == nil {
		// Not in New: where terms are only carried over, as by Simplify, nothing is asked.
		m.samples = sampleStore()
	}
	return m.samples
}

// sampleStore: the variable of the sort w has the number w + 1.
func sampleStore() *term.Store {
	s, _ := term.New(api.MaxWidth + 1)
	for w := range api.MaxWidth + 1 {
		s.Var("w"+strconv.Itoa(w), w)
	}
	return s
}

// sample: what stands for t among the refusals: 0 for 0 (a part that is not there), and another number that is no term for each number that is none.
func (m *Maker) sample(t int) int {
	if t == 0 {
		return 0
	}
	n, e := m.store.Node(t)
	if e != api.OK {
		return -1
	}
	return n.W + 1
}

// isRefusal: is it an error for another reason than that the samples leave no room?
func isRefusal(e api.Errno) bool { return e != api.OK && e != api.ErrSize }
