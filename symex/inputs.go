package symex

import (
	"strconv"

	"cadence/api"
	"cadence/bits"
	"cadence/ops"
	"cadence/simp"
	"cadence/term"
)

func inputWords(decls []api.Decl) int {
	n := 0
	for i := range decls {
		if d := &decls[i]; ops.IsInput(d) {
			n += ops.Count(d)
		}
	}
	return n
}

// misfit: why there can be nothing of this code with this maker, and that many things for its inputs.
func misfit(f api.Flat, m *simp.Maker, n int) api.Errno {
	length, e := Length(f)
	switch {
	case e != api.OK:
		return e
	case m == nil || m.Store() == nil: // one that simp.New did not make has no store
		return api.ErrNil
	case n != length:
		return api.ErrLength
	}
	return api.OK
}

// refusal: why there is no state of this code with these words for its inputs.
func refusal(f api.Flat, m *simp.Maker, in []int) api.Errno {
	if e := misfit(f, m, len(in)); e != api.OK {
		return e
	}
	for _, t := range in {
		n, e := m.Store().Node(t)
		switch {
		case e != api.OK:
			return e
		case n.W != f.Width:
			return api.ErrSort
		}
	}
	return api.OK
}

// inputNames: what the variables are called; false, if one is no name.
func inputNames(tails []string) ([]string, bool) {
	names := make([]string, len(tails))
	for i, tail := range tails {
		names[i] = "i" + strconv.Itoa(i) + tail
		if !bits.Name(names[i]) {
			return nil, false
		}
	}
	return names, true
}

// isTaken: does a store have a variable with one of these names, and another width?
func isTaken(s *term.Store, names []string, width int) bool {
	wanted := make(map[string]struct{}, len(names))
	for _, name := range names {
		wanted[name] = struct{}{}
	}
	for t := 1; t <= s.Len(); t++ {
		n, _ := s.Node(t)
		if _, is := wanted[n.Name]; is && n.W != width { // nothing but a variable has a name
			return true
		}
	}
	return false
}
