package symex

import (
	"cadence/api"
	"cadence/ops"
)

// Do: an instruction, if it is no if (F22.3).
func (s *State) Do(x api.Ins) (Event, bool, api.Errno) {
	if s.isNone() {
		return Event{}, false, api.ErrNil
	}
	if !s.fits(&x) {
		return Event{}, false, api.ErrArg
	}
	event, seen := s.do(&x)
	return event, seen, api.OK
}

// do: an instruction of the code that is no if; its event, and whether it has one.
func (s *State) do(x *api.Ins) (Event, bool) {
	of := s.words(x)
	event := s.event(x, of)
	switch x.Op {
	case api.FLoad:
		s.temps[x.Dst], _ = s.arrays[x.Array].Load(of[0])
	case api.FStore:
		s.arrays[x.Array].Store(of[0], of[1])
	case api.FRelease:
	default:
		s.temps[x.Dst] = s.maker.Op(x.Op, of)
	}
	return event, event.Kind > 0
}

// words: those of the arguments that an instruction has.
func (s *State) words(x *api.Ins) [3]int {
	var of [3]int
	all := ops.Args(x)
	for i, a := range all[:ops.Arity(x.Op)] {
		of[i] = s.word(a)
	}
	return of
}

// event: what an onlooker sees of an instruction; the empty one, if that is nothing.
func (s *State) event(x *api.Ins, of [3]int) Event {
	switch x.Op {
	case api.FLoad:
		return Event{Kind: api.EvLoad, N: x.Array, X: s.lineOf(x.Array, of[0])}
	case api.FStore:
		return Event{Kind: api.EvStore, N: x.Array, X: s.lineOf(x.Array, of[0])}
	case api.EDiv, api.ERem:
		return Event{Kind: api.EvDivide, X: of[0], Y: of[1]}
	case api.FRelease:
		return Event{Kind: api.EvRelease, X: of[0]}
	}
	return Event{}
}

// lineOf: the line of an index in an array.
func (s *State) lineOf(array, index int) int {
	slice, parts := s.maker.Line(index, s.arrays[array].Size(), s.line)
	if !parts {
		return s.maker.Number(0)
	}
	return s.maker.Wide(slice)
}

// fits: could an instruction stand in the code, as far as its own fields tell, and is it no if?
func (s *State) fits(x *api.Ins) bool {
	has := ops.Arity(x.Op)
	if has == 0 || x.Op == api.FIf || len(x.Then) > 0 || len(x.Else) > 0 {
		return false
	}
	for i, a := range ops.Args(x) {
		if i < has && !s.isArg(a) || i >= has && a != (api.Arg{}) {
			return false
		}
	}
	return s.dstFits(x) && s.arrayFits(x)
}

func (s *State) dstFits(x *api.Ins) bool {
	if ops.HasDst(x.Op) {
		return s.isTemp(x.Dst)
	}
	return x.Dst == 0
}

func (s *State) arrayFits(x *api.Ins) bool {
	if !ops.HasArray(x.Op) {
		return x.Array == 0
	}
	return x.Array >= 0 && x.Array < len(s.arrays) && s.arrays[x.Array] != nil &&
		(x.Op == api.FLoad || s.kinds[x.Array] != api.DConst)
}
