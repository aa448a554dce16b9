package symex

import (
	"slices"

	"cadence/api"
	"cadence/bits"
	"cadence/mem"
	"cadence/ops"
	"cadence/simp"
)

// State: the words of a run, as terms.
type State struct {
	maker       ops.Maker
	width, line int
	kinds       []int        // of the declarations; never written to, so that a clone has the same list
	temps       []int        // the word of each
	arrays      []*mem.Array // by the numbers of the declarations; none of a single
}

// newState stands at the beginning of code that may be; nothing of it is kept.
func newState(f api.Flat, m *simp.Maker, in []int) *State {
	s := &State{maker: ops.Of(m, f.Width), width: f.Width, line: f.Line, kinds: make([]int, len(f.Decls)), arrays: make([]*mem.Array, len(f.Decls))}
	for i, words := range s.maker.First(f.Decls, in) {
		s.kinds[i] = f.Decls[i].Kind
		if f.Decls[i].Size == 0 {
			s.temps = append(s.temps, words[0])
		} else {
			s.arrays[i], _ = mem.New(m, words...)
		}
	}
	zero := s.maker.Number(0)
	s.temps = append(s.temps, slices.Repeat([]int{zero}, f.Temps-len(s.temps))...)
	return s
}

// isNone: is it no state? Begin made one that has a width.
func (s *State) isNone() bool { return s == nil || s.width == 0 }

// Word: of an argument (F22.2).
func (s *State) Word(a api.Arg) (int, api.Errno) {
	if s.isNone() {
		return 0, api.ErrNil
	}
	if !s.isArg(a) {
		return 0, api.ErrArg
	}
	return s.word(a), api.OK
}

// Truth: of an argument (F22.2).
func (s *State) Truth(a api.Arg) (int, api.Errno) {
	word, e := s.Word(a)
	if e != api.OK {
		return 0, e
	}
	return s.maker.Truth(word), api.OK
}

// Words: of each declaration but tables, in order (F22.2).
func (s *State) Words() [][]int {
	if s.isNone() {
		return nil
	}
	var list [][]int
	singles := 0
	for i, kind := range s.kinds {
		switch {
		case s.arrays[i] == nil:
			list = append(list, []int{s.temps[singles]})
			singles++
		case kind != api.DConst:
			list = append(list, s.arrays[i].Cells())
		}
	}
	return list
}

// Clone: a state of its own with the same words (F22.2).
func (s *State) Clone() *State {
	if s.isNone() {
		return nil
	}
	c := *s
	c.temps, c.arrays = copied(s.temps), copied(s.arrays)
	for i, kind := range s.kinds {
		if c.arrays[i] != nil && kind != api.DConst { // nothing is ever written to a table
			c.arrays[i] = c.arrays[i].Clone()
		}
	}
	return &c
}

// copied: a list of its own.
func copied[T any](list []T) []T {
	c := make([]T, len(list))
	copy(c, list)
	return c
}

// isArg: is it an argument of the code?
func (s *State) isArg(a api.Arg) bool {
	if a.Temp == -1 {
		return bits.Trim(s.width, a.Num) == a.Num
	}
	return s.isTemp(a.Temp) && a.Num == 0
}

func (s *State) isTemp(n int) bool { return n >= 0 && n < len(s.temps) }

// word: of an argument of the code.
func (s *State) word(a api.Arg) int {
	if a.Temp < 0 {
		return s.maker.Number(a.Num)
	}
	return s.temps[a.Temp]
}
