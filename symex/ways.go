package symex

import (
	"iter"
	"slices"

	"cadence/api"
	"cadence/mem"
)

// choice: into which parts of an if with this truth to go.
type choice func(truth int) (then, otherwise bool)

// open: into both, unless the truth is so simple that it tells one.
func (s *State) open(truth int) (then, otherwise bool) {
	told, is := s.maker.Tells(truth)
	return !told || is, !is
}

// along: into those into which a run of the same code went.
func along(trace []api.Event) choice {
	return func(int) (then, otherwise bool) {
		for trace[0].Kind != api.EvBranch {
			trace = trace[1:]
		}
		then, trace = trace[0].A == 1, trace[1:]
		return then, !then
	}
}

// place: where a way stands in code.
type place struct {
	code   []api.Ins // what comes next
	behind *place    // where it goes on behind that; nil, if that is the end
}

// step goes behind the instruction that comes next; nil at the end.
func (p *place) step() *api.Ins {
	for len(p.code) == 0 {
		if p.behind == nil {
			return nil
		}
		*p = *p.behind
	}
	x := &p.code[0]
	p.code = p.code[1:]
	return x
}

// into: the beginning of a part of an if, behind which it goes on here.
func (p place) into(part []api.Ins) place { return place{code: part, behind: &p} }

// way: as far as it is gone.
type way struct {
	state   *State
	choose  choice
	conds   []int
	events  []Event
	pending int    // at how many ifs it went into Then, so that it must come back for Else
	turned  []turn // what it turned since the first of them
}

// turn: of a temp, the word that it had; of a declaration, the array that it had.
type turn struct {
	number, word int
	array        *mem.Array
}

// mark: how much there was of a way.
type mark struct{ conds, events, turned int }

// ways: those through code that a choice leaves, each at its end, where it stands until the next one is asked for.
func ways(code []api.Ins, s *State, choose choice) iter.Seq[*way] {
	return func(yield func(*way) bool) {
		w := way{state: s, choose: choose}
		w.on(place{code: code}, yield)
	}
}

// on goes on from a place, and hands on each way that goes on there; false, if no more are wanted.
func (w *way) on(at place, yield func(*way) bool) bool {
	for x := at.step(); x != nil; x = at.step() {
		if x.Op != api.FIf {
			w.do(x)
			continue
		}
		truth := w.state.maker.Truth(w.state.word(x.A))
		then, otherwise := w.choose(truth)
		if then && otherwise {
			here := mark{len(w.conds), len(w.events), len(w.turned)}
			w.pending++
			w.branch(truth, true)
			if !w.on(at.into(x.Then), yield) {
				return false
			}
			w.pending--
			w.back(here)
			then = false
		}
		w.branch(truth, then)
		if then {
			at = at.into(x.Then)
		} else {
			at = at.into(x.Else)
		}
	}
	return yield(w)
}

// do: an instruction that is no if.
func (w *way) do(x *api.Ins) {
	if w.pending > 0 {
		w.keep(x)
	}
	if event, seen := w.state.do(x); seen {
		w.events = append(w.events, event)
	}
}

// keep notes what an instruction turns. A state is not copied at each if, since there may be very many within a state that is very great.
func (w *way) keep(x *api.Ins) {
	s := w.state
	switch x.Op {
	case api.FRelease:
	case api.FStore:
		w.turned = append(w.turned, turn{number: x.Array, array: s.arrays[x.Array]})
		s.arrays[x.Array] = s.arrays[x.Array].Clone()
	default:
		w.turned = append(w.turned, turn{number: x.Dst, word: s.temps[x.Dst]})
	}
}

// back: the way is as it was at a mark.
func (w *way) back(to mark) {
	for _, t := range slices.Backward(w.turned[to.turned:]) {
		if t.array != nil {
			w.state.arrays[t.number] = t.array
		} else {
			w.state.temps[t.number] = t.word
		}
	}
	w.conds, w.events, w.turned = w.conds[:to.conds], w.events[:to.events], w.turned[:to.turned]
}

// branch: an if is seen to go into one part; that this is so is assumed, unless its truth is so simple that it tells so.
func (w *way) branch(truth int, then bool) {
	event := Event{Kind: api.EvBranch, N: 1}
	if !then {
		truth, event.N = w.state.maker.Not(truth), 0
	}
	if _, is := w.state.maker.Tells(truth); !is {
		w.conds = append(w.conds, truth)
	}
	w.events = append(w.events, event)
}

// path: what is handed out of a way at its end.
func (w *way) path() Path {
	return Path{Conds: slices.Clone(w.conds), Events: slices.Clone(w.events), State: w.state.Words()}
}
