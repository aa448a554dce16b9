package dpll

import "math/bits"

// places is a set of numbers below a bound, of which the least is found in a few steps, however many are gone ahead of it. Its first row has a bit for each number, each further one a bit for each word of the row ahead that is not 0; the last one is a single word.
type places struct {
	rows [][]uint64
}

// allPlaces: all numbers below n.
func allPlaces(n int) places {
	words := max(1, (n+63)/64)
	p := places{rows: [][]uint64{make([]uint64, words)}}
	for words > 1 {
		words = (words + 63) / 64
		p.rows = append(p.rows, make([]uint64, words))
	}
	for i := range n {
		p.put(i)
	}
	return p
}

// put: a number is in the set.
func (p places) put(i int) {
	for _, row := range p.rows {
		row[i/64] |= 1 << (i % 64)
		i /= 64
	}
}

// remove: a number is not in the set any more.
func (p places) remove(i int) {
	for _, row := range p.rows {
		row[i/64] &^= 1 << (i % 64)
		i /= 64
		if row[i] != 0 {
			return
		}
	}
}

// least: the least number of the set; -1, if it is empty.
func (p places) least() int {
	last := len(p.rows) - 1
	if p.rows[last][0] == 0 {
		return -1
	}
	at := 0
	for k := last; k >= 0; k-- {
		at = at*64 + bits.TrailingZeros64(p.rows[k][at])
	}
	return at
}
