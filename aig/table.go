package aig

// pageNodes: how many nodes in a row have one page of a table.
const pageNodes = 1024

// table keeps something of nodes, by their numbers. It has pages for those alone of which something was set: a small cone of a great graph needs little room.
type table[T any] struct{ pages [][]T }

// newTable: for the cone of the roots, which has no node greater than theirs.
func newTable[T any](roots []uint32) table[T] {
	most := 0
	for _, l := range roots {
		most = max(most, nodeOf(l))
	}
	return table[T]{pages: make([][]T, most/pageNodes+1)}
}

func (t table[T]) set(n int, v T) {
	page := &t.pages[n/pageNodes]
	if *page == nil {
		*page = make([]T, pageNodes)
	}
	(*page)[n%pageNodes] = v
}

// of: what was set of a literal's node, or zero.
func (t table[T]) of(l uint32) T {
	n := nodeOf(l)
	if page := t.pages[n/pageNodes]; page != nil {
		return page[n%pageNodes]
	}
	var zero T
	return zero
}
