package cdcl

import "container/heap"

const (
	firstWeight uint64 = 1 << 16
	mostScore   uint64 = 1 << 60
	scoreShift         = 44
)

// order is a heap of variables: on top the one that was used most of late.
type order []*variable

func (o order) Len() int { return len(o) }

func (o order) Less(i, j int) bool {
	if o[i].score != o[j].score {
		return o[i].score > o[j].score
	}
	return o[i].turn < o[j].turn
}

func (o order) Swap(i, j int) {
	o[i], o[j] = o[j], o[i]
	o[i].place, o[j].place = i, j
}

func (o *order) Push(x any) {
	v := x.(*variable)
	v.place = len(*o)
	*o = append(*o, v)
}

func (o *order) Pop() any {
	last := len(*o) - 1
	v := (*o)[last]
	v.place = -1
	*o = (*o)[:last]
	return v
}

// next: the variable without a value that is chosen; nil, if all have one.
func (s *Solver) next() *variable {
	for s.order.Len() > 0 {
		v := heap.Pop(&s.order).(*variable)
		if s.values[2*v.number] == 0 {
			return v
		}
	}
	return nil
}

// bump: a variable is used.
func (s *Solver) bump(v *variable) {
	v.score += s.weight
	if v.place >= 0 {
		heap.Fix(&s.order, v.place)
	}
	if v.score > mostScore {
		s.scale()
	}
}

// scale: all scores become less, by the same.
func (s *Solver) scale() {
	for i := range s.variables {
		s.variables[i].score >>= scoreShift
	}
	s.weight = max(firstWeight, s.weight>>scoreShift)
	heap.Init(&s.order)
}

// age: what is used from now on counts more.
func (s *Solver) age() { s.weight += s.weight >> 4 }
