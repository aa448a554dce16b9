package eval

import (
	"cadence/api"
	"cadence/bits"
	"cadence/term"
)

// toldOf: what is told of variables, by their names.
func toldOf(vals []api.Value) (map[string]api.Value, api.Errno) {
	told := make(map[string]api.Value, len(vals))
	for _, v := range vals {
		if _, there := told[v.Name]; there || !bits.Name(v.Name) {
			return nil, api.ErrName
		}
		told[v.Name] = v
	}
	// A name that is none comes first, wherever it stands.
	for _, v := range vals {
		if !holds(v.W, v.Num) {
			return nil, api.ErrWidth
		}
	}
	return told, api.OK
}

// holds: is it a value of that sort?
func holds(w int, x uint64) bool {
	if w == 0 {
		return x <= 1
	}
	return bits.Right(w) && bits.Trim(w, x) == x
}

// areNames: is each a name, and stands there once?
func areNames(names []string) bool {
	seen := make(map[string]struct{}, len(names))
	for _, name := range names {
		if _, there := seen[name]; there || !bits.Name(name) {
			return false
		}
		seen[name] = struct{}{}
	}
	return true
}

// areTerms: are all of them terms of the store?
func areTerms(s *term.Store, terms []int) bool {
	for _, t := range terms {
		if _, e := s.Node(t); e != api.OK {
			return false
		}
	}
	return true
}
