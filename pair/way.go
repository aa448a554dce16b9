package pair

import (
	"slices"
	"strconv"

	"cadence/api"
	"cadence/mem"
	"cadence/ops"
	"cadence/simp"
	"cadence/term"
)

// Way: two copies, somewhere in the code.
type Way struct {
	shared  *shared
	places  []place // where it stands, the innermost one last
	copies  twice[words]
	assumed truths
	events  int
	waits   Ask // what it waits for; without a kind, if it does not
}

// shared: what all ways of one Start have in common. None of it is written to, but the store by the maker.
type shared struct {
	store       *term.Store
	maker       ops.Maker
	zero        int
	line, temps int
	sizes       []int // of the declarations; 0 of a single
}

// place: what comes next in a part of the code.
type place []api.Ins

// words: those of a copy. None of its trees' arrays is written to.
type words struct {
	temps  *tree[int] // 0 for those that are the constant 0 from the beginning on
	arrays *tree[*mem.Array]
}

// newWay: at the beginning of code that may be, of which nothing is kept.
func newWay(f *api.Flat) *Way {
	m := simp.New()
	s := &shared{store: m.Store(), maker: ops.Of(m, f.Width), line: f.Line, temps: f.Temps}
	s.zero = s.maker.Number(0)
	for i := range f.Decls {
		s.sizes = append(s.sizes, f.Decls[i].Size)
	}
	begin := func(in []int) words { return s.first(f.Decls, m, in) }
	return &Way{shared: s, places: []place{owned(f.Code)}, copies: each(inputs(f, m), begin)}
}

// inputs: the variables for the inputs.
func inputs(f *api.Flat, m *simp.Maker) twice[[]int] {
	var in twice[[]int]
	add := func(list []int, name string) []int {
		word, _ := m.Var(name+strconv.Itoa(len(list)), f.Width)
		return append(list, word)
	}
	for i := range f.Decls {
		d := &f.Decls[i]
		if !ops.IsInput(d) {
			continue
		}
		names := twice[string]{"x", "y"}
		if d.Kind == api.DPublic {
			names = twice[string]{"p", "p"}
		}
		for range ops.Count(d) {
			in = with(in, names, add)
		}
	}
	return in
}

// first: a copy's words at the beginning.
func (s *shared) first(decls []api.Decl, m *simp.Maker, in []int) words {
	var w words
	singles := 0
	for i, list := range s.maker.First(decls, in) {
		if s.sizes[i] == 0 {
			w.temps = w.temps.put(singles, list[0])
			singles++
			continue
		}
		array, _ := mem.New(m, list...)
		w.arrays = w.arrays.put(i, array)
	}
	return w
}

// owned: code of its own.
func owned(code []api.Ins) []api.Ins {
	own := slices.Clone(code)
	for i := range own {
		own[i].Then, own[i].Else = owned(own[i].Then), owned(own[i].Else)
	}
	return own
}

// isNone: is it no way? Start made one that has something to share.
func (w *Way) isNone() bool { return w == nil || w.shared == nil }

// refusal: why a way that waits for nothing of that kind has no answer to it.
func (w *Way) refusal(kind int) api.Errno {
	switch {
	case w.isNone():
		return api.ErrNil
	case w.waits.Kind != kind:
		return api.ErrArg
	}
	return api.OK
}

// next: the instruction at which it stands; nil at the code's end.
func (w *Way) next() *api.Ins {
	for last := len(w.places) - 1; last >= 0; last-- {
		if here := w.places[last]; len(here) > 0 {
			return &here[0]
		}
		w.places = w.places[:last]
	}
	return nil
}

// step goes behind the instruction at which it stands.
func (w *Way) step() {
	last := len(w.places) - 1
	w.places[last] = w.places[last][1:]
}

// into goes into a part of the if at which it stands.
func (w *Way) into(part []api.Ins) {
	w.step()
	w.places = append(w.places, part)
}

// parted: the way into a part of the if at which this one stands, with what is so in either copy.
func (w *Way) parted(part []api.Ins, so twice[int]) *Way {
	to := *w
	to.places = slices.Clone(w.places)
	to.waits = Ask{}
	to.into(part)
	to.assume(so.one)
	to.assume(so.two)
	return &to
}

// assume: an assumption is made.
func (w *Way) assume(truth int) {
	if _, is := w.shared.maker.Tells(truth); !is {
		w.assumed = w.assumed.and(truth)
	}
}
