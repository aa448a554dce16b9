package symex

import (
	"slices"
	"testing"

	"cadence/api"
	"cadence/mem"
	"cadence/simp"
)

// The chapter's words read once more, in the plainest form: each way is gone from the very beginning, by a list of the parts into which it goes.

// plainMade: the table of what an operation makes.
func plainMade(m *simp.Maker, width, op int, of [3]int) int {
	a, b, c := of[0], of[1], of[2]
	got := func(t int, e api.Errno) int {
		if e != api.OK {
			panic(e)
		}
		return t
	}
	zero, one := got(m.Const(width, 0)), got(m.Const(width, 1))
	wordOf := func(truth int) int { return got(m.Ite(truth, one, zero)) }
	switch op {
	case api.ECom:
		return got(m.Un(api.OpCom, a))
	case api.ENeg:
		return got(m.Un(api.OpNeg, a))
	case api.EEq:
		return wordOf(got(m.Bin(api.OpEq, a, b)))
	case api.ENe:
		return wordOf(got(m.Un(api.OpNot, got(m.Bin(api.OpEq, a, b)))))
	case api.ELt:
		return wordOf(got(m.Bin(api.OpUlt, a, b)))
	case api.ELe:
		return wordOf(got(m.Bin(api.OpUle, a, b)))
	case api.EGt:
		return wordOf(got(m.Bin(api.OpUlt, b, a)))
	case api.EGe:
		return wordOf(got(m.Bin(api.OpUle, b, a)))
	case api.ESlt:
		return wordOf(got(m.Bin(api.OpSlt, a, b)))
	case api.ESel:
		return got(m.Ite(plainTruth(m, width, a), b, c))
	case api.FCopy:
		return a
	}
	ops := map[int]int{
		api.EMul: api.OpMul, api.EDiv: api.OpDiv, api.ERem: api.OpRem, api.EAdd: api.OpAdd, api.ESub: api.OpSub,
		api.EShl: api.OpShl, api.EShr: api.OpShr, api.ERol: api.OpRol, api.ERor: api.OpRor,
		api.EAnd: api.OpBand, api.EXor: api.OpBxor, api.EOr: api.OpBor, api.ESar: api.OpSar,
	}
	return got(m.Bin(ops[op], a, b))
}

// plainTruth: not (eq a 0).
func plainTruth(m *simp.Maker, width, a int) int {
	zero, _ := m.Const(width, 0)
	eq, _ := m.Bin(api.OpEq, a, zero)
	not, _ := m.Un(api.OpNot, eq)
	return not
}

// plainLine: of an index in an array of so many words.
func plainLine(m *simp.Maker, width, line, size, index int) int {
	n, l := 0, 0
	for n < width && 1<<n < size {
		n++
	}
	for 1<<l < line {
		l++
	}
	if l >= n {
		zero, _ := m.Const(width, 0)
		return zero
	}
	slice, _ := m.Slice(index, l, n-l)
	word, _ := m.Ext(api.OpZext, slice, width)
	return word
}

// plainWay goes one way, by a list of parts (true: Then) for the ifs whose truths do not tell one.
type plainWay struct {
	f      api.Flat
	m      *simp.Maker
	temps  []int
	arrays map[int]*mem.Array
	parts  []bool // what is left of the list
	short  bool   // there was an if for which the list told nothing
	out    Path
}

func newPlainWay(f api.Flat, m *simp.Maker, in []int, parts []bool) *plainWay {
	w := &plainWay{f: f, m: m, arrays: map[int]*mem.Array{}, parts: parts}
	zero, _ := m.Const(f.Width, 0)
	for i, d := range f.Decls {
		var words []int
		for n := range max(d.Size, 1) {
			switch d.Kind {
			case api.DPublic, api.DSecret:
				words, in = append(words, in[0]), in[1:]
			case api.DConst:
				x, _ := m.Const(f.Width, d.Values[n])
				words = append(words, x)
			default:
				words = append(words, zero)
			}
		}
		if d.Size == 0 {
			w.temps = append(w.temps, words[0])
		} else {
			w.arrays[i], _ = mem.New(m, words...)
		}
	}
	for len(w.temps) < f.Temps {
		w.temps = append(w.temps, zero)
	}
	return w
}

func (w *plainWay) word(a api.Arg) int {
	if a.Temp >= 0 {
		return w.temps[a.Temp]
	}
	x, _ := w.m.Const(w.f.Width, a.Num)
	return x
}

func (w *plainWay) see(kind, n, x, y int) {
	w.out.Events = append(w.out.Events, Event{Kind: kind, N: n, X: x, Y: y})
}

func (w *plainWay) block(list []api.Ins) {
	for _, x := range list {
		if !w.short {
			w.ins(x)
		}
	}
}

func (w *plainWay) ins(x api.Ins) {
	switch x.Op {
	case api.FIf:
		w.branch(x)
	case api.FRelease:
		w.see(api.EvRelease, 0, w.word(x.A), 0)
	case api.FLoad:
		a := w.arrays[x.Array]
		w.see(api.EvLoad, x.Array, plainLine(w.m, w.f.Width, w.f.Line, a.Size(), w.word(x.A)), 0)
		w.temps[x.Dst], _ = a.Load(w.word(x.A))
	case api.FStore:
		a := w.arrays[x.Array]
		w.see(api.EvStore, x.Array, plainLine(w.m, w.f.Width, w.f.Line, a.Size(), w.word(x.A)), 0)
		a.Store(w.word(x.A), w.word(x.B))
	default:
		var of [3]int
		for i, a := range []api.Arg{x.A, x.B, x.C}[:partsOf(x.Op)] {
			of[i] = w.word(a)
		}
		if x.Op == api.EDiv || x.Op == api.ERem {
			w.see(api.EvDivide, 0, of[0], of[1])
		}
		w.temps[x.Dst] = plainMade(w.m, w.f.Width, x.Op, of)
	}
}

func (w *plainWay) branch(x api.Ins) {
	truth := plainTruth(w.m, w.f.Width, w.word(x.A))
	n, _ := w.m.Store().Node(truth)
	then := n.Op == api.OpTrue
	if n.Op != api.OpTrue && n.Op != api.OpFalse {
		if len(w.parts) == 0 {
			w.short = true
			return
		}
		then, w.parts = w.parts[0], w.parts[1:]
		if !then {
			truth, _ = w.m.Un(api.OpNot, truth)
		}
		w.out.Conds = append(w.out.Conds, truth)
	}
	if then {
		w.see(api.EvBranch, 1, 0, 0)
		w.block(x.Then)
	} else {
		w.see(api.EvBranch, 0, 0, 0)
		w.block(x.Else)
	}
}

// state: the words at the end.
func (w *plainWay) state() [][]int {
	var state [][]int
	single := 0
	for i, d := range w.f.Decls {
		switch {
		case d.Size == 0:
			state = append(state, []int{w.temps[single]})
			single++
		case d.Kind != api.DConst:
			state = append(state, w.arrays[i].Cells())
		}
	}
	return state
}

// plainPaths: all ways, if there are at most so many, else one more than that, and whether they are all: for a list of parts that tells too little, first those with Then behind it, then those with Else.
func plainPaths(f api.Flat, m *simp.Maker, in []int, most int) ([]Path, bool) {
	var all []Path
	var from func(parts []bool) bool
	from = func(parts []bool) bool {
		w := newPlainWay(f, m, in, parts)
		w.block(f.Code)
		if w.short {
			return from(append(parts[:len(parts):len(parts)], true)) && from(append(parts[:len(parts):len(parts)], false))
		}
		w.out.State = w.state()
		all = append(all, w.out)
		return len(all) <= most
	}
	return all, from(nil) && len(all) <= most
}

// samePath: two ways are the same, in all that they tell.
func samePath(t testing.TB, what string, got, want Path) {
	t.Helper()
	if !slices.Equal(got.Conds, want.Conds) {
		t.Fatalf("%s: the conditions %v, not %v", what, got.Conds, want.Conds)
	}
	if !slices.Equal(got.Events, want.Events) {
		t.Fatalf("%s: the events %v, not %v", what, got.Events, want.Events)
	}
	if !slices.EqualFunc(got.State, want.State, slices.Equal[[]int]) {
		t.Fatalf("%s: the words %v, not %v", what, got.State, want.State)
	}
}
