package eval

import (
	"errors"
	"strconv"

	"cadence/api"
	"cadence/bits"
	"cadence/term"
)

// Put: what roots become with terms for the variables of these names (F8.4).
func Put(s *term.Store, roots []int, names []string, terms []int) ([]int, api.Errno) {
	c, e := coneOf(s, roots)
	switch {
	case e != api.OK:
		return nil, e
	case !areTerms(s, terms):
		return nil, api.ErrTerm
	case !areNames(names):
		return nil, api.ErrName
	case len(names) != len(terms):
		return nil, api.ErrArg
	}
	instead := make(map[string]int, len(names))
	for i, name := range names {
		instead[name] = terms[i]
	}
	for _, v := range c.vars() {
		if t, there := instead[v.Name]; there && widthOf(s, t) != v.W {
			return nil, api.ErrSort
		}
	}
	made, err := c.put(roots, instead)
	return made, codeOf(err)
}

// Carry: roots, made in another store (F8.5).
func Carry(s *term.Store, roots []int, into *term.Store) ([]int, api.Errno) {
	if into == nil {
		return nil, api.ErrNil
	}
	c, e := coneOf(s, roots)
	if e != api.OK {
		return nil, e
	}
	made, err := c.remade(roots, func(_ int, _, now api.Node) (int, error) {
		return makeIn(into, now)
	})
	return made, codeOf(err)
}

// Split: what roots become with variables whose names have a tail for those of these names (F8.6).
func Split(s *term.Store, roots []int, names []string, tail string) ([]int, api.Errno) {
	c, e := coneOf(s, roots)
	if e != api.OK {
		return nil, e
	}
	if !areNames(names) {
		return nil, api.ErrName
	}
	for _, name := range names {
		if !bits.Name(name + tail) {
			return nil, api.ErrName
		}
	}
	instead, err := c.tailed(names, tail)
	if err != nil {
		return nil, codeOf(err)
	}
	made, err := c.put(roots, instead)
	return made, codeOf(err)
}

// tailed: for those of names that a variable of the cone has, the variable whose name has a tail.
func (c cone) tailed(names []string, tail string) (map[string]int, error) {
	widths := map[string]int{}
	for _, v := range c.vars() {
		widths[v.Name] = v.W
	}
	instead := map[string]int{}
	for _, name := range names {
		w, there := widths[name]
		if !there {
			continue
		}
		t, err := makeIn(c.store, api.Node{Op: api.OpVar, W: w, Name: name + tail})
		if err != nil {
			return nil, err
		}
		instead[name] = t
	}
	return instead, nil
}

// put: what roots become where variables, by their names, are terms of their sorts.
func (c cone) put(roots []int, instead map[string]int) ([]int, error) {
	return c.remade(roots, func(t int, was, now api.Node) (int, error) {
		if other, there := instead[was.Name]; there && was.Op == api.OpVar {
			return other, nil
		}
		if now == was {
			return t, nil
		}
		return makeIn(c.store, now)
	})
}

// remade: what roots become, where become tells it of each term in order: it is handed the term's node as it was, and as it is with what its parts became. An error of it ends all.
func (c cone) remade(roots []int, become func(t int, was, now api.Node) (int, error)) ([]int, error) {
	became := newNotes[int](c.order)
	for t, was := range c.nodes() {
		now := was
		now.A, now.B, now.C = became.at(was.A), became.at(was.B), became.at(was.C)
		made, err := become(t, was, now)
		if err != nil {
			return nil, err
		}
		became.set(t, made)
	}
	return became.all(roots), nil
}

// makeIn: the term of a node in a store, or a refusal.
func makeIn(s *term.Store, n api.Node) (int, error) {
	t, e := s.Make(n)
	if e != api.OK {
		return 0, refusal{op: n.Op, code: e}
	}
	return t, nil
}

// refusal: a store did not take a node of that operation.
type refusal struct {
	op   int
	code api.Errno
}

func (r refusal) Error() string {
	return "a node of operation " + strconv.Itoa(r.op) + " is refused: " + r.code.Error()
}

func (r refusal) Unwrap() error { return r.code }

// codeOf: the number that an error wraps; api.OK, where there is no error.
func codeOf(err error) api.Errno {
	code := api.OK
	errors.As(err, &code)
	return code
}
