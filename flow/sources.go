package flow

import "cadence/api"

// sources: a set of declarations, with a bit for the number of each.
type sources [api.MaxNames / 64]uint64

// only: the set of one declaration.
func only(number int) sources {
	var s sources
	s[number/64] = 1 << (number % 64)
	return s
}

// add puts what is in another set into this one.
func (s *sources) add(other sources) {
	for i := range s {
		s[i] |= other[i]
	}
}

// numbers: of the declarations in a set, rising.
func (s *sources) numbers() []int {
	var list []int
	for number := range api.MaxNames {
		if s[number/64]>>(number%64)&1 == 1 {
			list = append(list, number)
		}
	}
	return list
}

// hanging: what each declaration hangs on, by its number.
type hanging [api.MaxNames]sources

// add: each hangs on what it does by the other, too.
func (h *hanging) add(other *hanging) {
	for i := range h {
		h[i].add(other[i])
	}
}
