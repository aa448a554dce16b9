package known

import (
	"slices"

	"cadence/api"
	"cadence/bits"
	"cadence/term"
)

// knowledge: what is known of variables, settled, in the order in which their names came.
type knowledge struct {
	names  []string
	facts  []api.Fact
	places map[string]int
}

// newKnowledge: what is told, by names, if it is right for these variables too.
func newKnowledge(names []string, told []api.Fact, vars []api.Value) (*knowledge, api.Errno) {
	places, right := placesOf(names)
	if !right {
		return nil, api.ErrName
	}
	facts, e := settleAll(told)
	if e != api.OK {
		return nil, e
	}
	if len(names) != len(told) {
		return nil, api.ErrArg
	}
	for _, v := range vars {
		if place, there := places[v.Name]; there && facts[place].W != v.W {
			return nil, api.ErrSort
		}
	}
	return &knowledge{names: slices.Clone(names), facts: facts, places: places}, api.OK
}

// placesOf: where each of names stands; false, if one is no name, or stands twice.
func placesOf(names []string) (map[string]int, bool) {
	places := make(map[string]int, len(names))
	for i, name := range names {
		if _, there := places[name]; there || !bits.Name(name) {
			return nil, false
		}
		places[name] = i
	}
	return places, true
}

// placeOf: of a variable, which is put behind the others if it is not there yet.
func (k *knowledge) placeOf(v api.Node) int {
	place, there := k.places[v.Name]
	if !there {
		place = len(k.names)
		k.places[v.Name] = place
		k.names = append(k.names, v.Name)
		k.facts = append(k.facts, nothing(v.W))
	}
	return place
}

// through goes through the terms that roots lead to, and tells what is known of the roots.
func (k *knowledge) through(s *term.Store, roots []int) []api.Fact {
	order, _ := s.Order(roots...)
	found := make(map[int]api.Fact, len(order))
	for _, t := range order {
		n, _ := s.Node(t)
		// Only variables have names.
		if place, there := k.places[n.Name]; there {
			found[t] = k.facts[place]
			continue
		}
		parts := [...]api.Fact{found[n.A], found[n.B], found[n.C]}
		found[t] = factOf(n, parts[:partsOf(n.Op)])
	}
	facts := make([]api.Fact, len(roots))
	for i, t := range roots {
		facts[i] = found[t]
	}
	return facts
}
