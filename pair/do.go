package pair

import (
	"cadence/api"
	"cadence/ops"
)

// weight: of an instruction.
func (w *Way) weight(x *api.Ins) int64 {
	if ops.HasArray(x.Op) {
		return 2 * int64(w.shared.sizes[x.Array])
	}
	return 2
}

// temp: the term of a copy's temp.
func (w *Way) temp(of words, n int) int {
	if t := of.temps.at(n); t != 0 {
		return t
	}
	return w.shared.zero
}

// words: of the arguments that an instruction has.
func (w *Way) words(x *api.Ins) twice[[3]int] {
	all := ops.Args(x)
	return each(w.copies, func(of words) [3]int {
		var list [3]int
		for i, a := range all[:ops.Arity(x.Op)] {
			if a.Temp < 0 {
				list[i] = w.shared.maker.Number(a.Num)
			} else {
				list[i] = w.temp(of, a.Temp)
			}
		}
		return list
	})
}

// set: of an if's words, that it goes into Then.
func (w *Way) set(of [3]int) int { return w.shared.maker.Truth(of[0]) }

// isEvent: does an onlooker see something of it?
func isEvent(op int) bool {
	switch op {
	case api.EDiv, api.ERem, api.FLoad, api.FStore, api.FRelease, api.FIf:
		return true
	}
	return false
}

// toShow: the truth that must never be where an instruction is done; false, if nothing must be shown.
func (w *Way) toShow(x *api.Ins) (int, bool) {
	seen := each(w.words(x), func(of [3]int) [2]int { return w.seen(x, of) })
	if seen.one == seen.two {
		return 0, false
	}
	return w.unlike(x.Op, seen), true
}

// seen: what is seen of an instruction in a copy, as far as it must be shown to be alike in both.
func (w *Way) seen(x *api.Ins, of [3]int) [2]int {
	switch x.Op {
	case api.EDiv, api.ERem:
		return [2]int{of[0], of[1]}
	case api.FLoad, api.FStore:
		line, _ := w.shared.maker.Line(of[0], w.shared.sizes[x.Array], w.shared.line)
		return [2]int{line}
	case api.FIf:
		return [2]int{w.set(of)}
	}
	return [2]int{}
}

// unlike: that what is seen of an operation is not alike.
func (w *Way) unlike(op int, seen twice[[2]int]) int {
	a, b, maker := seen.one, seen.two, w.shared.maker
	switch op {
	case api.EDiv, api.ERem:
		return maker.Bin(api.OpOr, maker.Unlike(a[0], b[0]), maker.Unlike(a[1], b[1]))
	case api.FIf:
		return maker.Bin(api.OpXor, a[0], b[0])
	}
	return maker.Unlike(a[0], b[0])
}

// do: the instruction at which it stands, of which nothing is to be shown any more.
func (w *Way) do(x *api.Ins) {
	if isEvent(x.Op) {
		w.events++
	}
	if x.Op == api.FIf {
		w.branch(x)
		return
	}
	of := w.words(x)
	if x.Op == api.FRelease {
		w.assume(w.shared.maker.Bin(api.OpEq, of.one[0], of.two[0]))
	}
	w.copies = with(w.copies, of, func(c words, of [3]int) words { return w.done(x, c, of) })
	w.step()
}

// done: a copy's words behind an instruction.
func (w *Way) done(x *api.Ins, c words, of [3]int) words {
	switch x.Op {
	case api.FRelease:
	case api.FLoad:
		word, _ := c.arrays.at(x.Array).Load(of[0])
		c.temps = c.temps.put(x.Dst, word)
	case api.FStore:
		array := c.arrays.at(x.Array).Clone()
		array.Store(of[0], of[1])
		c.arrays = c.arrays.put(x.Array, array)
	default:
		c.temps = c.temps.put(x.Dst, w.shared.maker.Op(x.Op, of))
	}
	return c
}

// branch goes into the part that a copy's truth tells, the first copy's first; if none does, the way waits.
func (w *Way) branch(x *api.Ins) {
	set := each(w.words(x), w.set)
	for _, truth := range []int{set.one, set.two} {
		told, is := w.shared.maker.Tells(truth)
		switch {
		case is:
			w.into(x.Then)
			return
		case told:
			w.into(x.Else)
			return
		}
	}
	w.waits = Ask{Kind: Branch, Truth: set.one}
}
