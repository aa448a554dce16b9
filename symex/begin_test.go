package symex

import (
	"fmt"
	"math"
	"testing"

	"cadence/api"
	"cadence/simp"
)

// allKinds: singles and arrays of all kinds, in an order that mixes them.
const allKinds = "width 8; out a[2]; secret b; const T[2] = 7, 255; var c; public d[4]; out e; secret f[1]; const U[1] = 9; public g; var h[2]; "

// TestBegin: inputs have their words, tables their numbers, all else is 0 (F22.2).
func TestBegin(t *testing.T) {
	b := begin(t, code(t, allKinds, 7))
	is(t, "Words", b.showWords(b.s.Words()), "(0 0) (i0) (0) (i1 i2 i3 i4) (0) (i5) (i6) (0 0)")
	for i, want := range []string{"i0", "0", "0", "i6", "0", "0", "0"} {
		is(t, fmt.Sprint("the temp ", i), b.show(b.word(temp(i))), want)
	}
	for at, want := range []string{"7", "255"} {
		b.do(load(6, 2, number(uint64(at))))
		is(t, "the table T", b.show(b.word(temp(6))), want)
	}
	b.do(load(6, 7, number(0)))
	is(t, "the table U", b.show(b.word(temp(6))), "9")
	is(t, "Words behind that", b.showWords(b.s.Words()), "(0 0) (i0) (0) (i1 i2 i3 i4) (0) (i5) (i6) (0 0)")
}

// TestBeginWords: words of the inputs that are no variables, or the same one twice (F22.2).
func TestBeginWords(t *testing.T) {
	f := code(t, allKinds, 4)
	m := simp.New()
	x, _ := m.Var("x", 8)
	five, _ := m.Const(8, 5)
	sum, _ := m.Bin(api.OpAdd, x, five)
	b := beginWith(t, f, m, []int{sum, five, x, x, sum, five, x})
	is(t, "Words", b.showWords(b.s.Words()), "(0 0) ((add x 5)) (0) (5 x x (add x 5)) (0) (5) (x) (0 0)")
	is(t, "the temp of g", b.word(temp(3)), x)
	b = beginWith(t, code(t, "width 4;", 0), m, nil)
	is(t, "no words", len(b.s.Words()), 0)
	b = beginWith(t, code(t, "width 4; const T[2] = 1, 2;", 0), m, []int{})
	is(t, "a table alone", len(b.s.Words()), 0)
	b = beginWith(t, code(t, "width 64; out x; const T[1] = 0xffffffffffffffff;", 2), m, nil)
	b.do(load(1, 1, number(7)))
	is(t, "a table's greatest word", b.show(b.word(temp(1))), fmt.Sprint(uint64(math.MaxUint64)))
}

// noState: a call of Begin, Paths and Follow is refused, and nothing is made beside that.
func noState(t testing.TB, what string, f api.Flat, m *simp.Maker, in []int, want api.Errno) {
	t.Helper()
	terms := 0
	if m != nil && m.Store() != nil {
		terms = m.Store().Len()
	}
	s, e := Begin(f, m, in)
	is(t, "Begin: "+what, []any{s == nil, e}, []any{true, want})
	for _, most := range []int{9, 0, -1} { // ErrArg of that comes behind these
		l, more, e := Paths(f, m, in, most)
		is(t, "Paths: "+what, []any{l == nil, more, e}, []any{true, false, want})
	}
	for _, vals := range [][]api.Value{nil, {{Name: "-"}}} { // likewise
		p, e := Follow(f, m, in, vals)
		is(t, "Follow: "+what, []any{fmt.Sprintf("%#v", p), e}, []any{fmt.Sprintf("%#v", Path{}), want})
	}
	if m != nil && m.Store() != nil {
		is(t, what+": the terms", m.Store().Len(), terms)
	}
}

// TestBeginRefused: the errors in their order, of all calls that begin; nothing is made beside them (F22.2, F22.4, F22.5, rule 2).
func TestBeginRefused(t *testing.T) {
	f := program(t, "width 8; secret k; public n[2]; const T[2] = 1, 2; out x; begin x = T[k] + 3; end")
	m := simp.New()
	right := variables(t, f, m)
	truth := m.Truth(true)
	narrow, _ := m.Var("narrow", 7)
	wide, _ := m.Const(9, 3)
	for what, g := range noCode(t) {
		for _, in := range [][]int{nil, {1}, {-1, 0, 99}} {
			noState(t, what, g, nil, in, api.ErrArg)
			noState(t, what, g, m, in, api.ErrArg)
		}
	}
	for _, in := range [][]int{nil, right, right[:1], {-1, 0, 99}, {truth, truth, truth}} {
		noState(t, "no maker", f, nil, in, api.ErrNil)
		noState(t, "a maker that none made", f, new(simp.Maker), in, api.ErrNil)
	}
	for _, in := range [][]int{nil, {}, right[:2], {right[0], right[1], right[2], right[0]}, {-1}, {truth}, make([]int, 5000)} {
		noState(t, fmt.Sprint("of length ", len(in)), f, m, in, api.ErrLength)
	}
	none := []int{0, -1, math.MinInt, math.MaxInt, m.Store().Len() + 1, 1 << 40}
	for place := range right {
		with := func(x int) []int {
			in := append([]int(nil), right...)
			in[place] = x
			return in
		}
		for _, x := range none {
			noState(t, fmt.Sprint("no term: ", x), f, m, with(x), api.ErrTerm)
		}
		for _, x := range []int{truth, narrow, wide} {
			noState(t, fmt.Sprint("of another sort: ", x), f, m, with(x), api.ErrSort)
		}
	}
	// Of several wrong words it is the first that tells.
	for _, r := range []struct {
		in   []int
		want api.Errno
	}{
		{[]int{truth, 0, right[2]}, api.ErrSort},
		{[]int{0, truth, right[2]}, api.ErrTerm},
		{[]int{right[0], narrow, -1}, api.ErrSort},
		{[]int{right[0], -1, narrow}, api.ErrTerm},
		{[]int{wide, narrow, -1}, api.ErrSort},
		{[]int{-1, 1 << 40, truth}, api.ErrTerm},
	} {
		noState(t, fmt.Sprint(r.in), f, m, r.in, r.want)
	}
}

// TestOtherMaker: a term of another maker's store is none here, where there are not so many (F22.2).
func TestOtherMaker(t *testing.T) {
	f := program(t, "width 8; secret k; begin end")
	m, o := simp.New(), simp.New()
	o.Truth(false)
	x, _ := o.Var("x", 8)
	noState(t, "of an empty store", f, m, []int{x}, api.ErrTerm)
	is(t, "its own", beginWith(t, f, o, []int{x}).s.Words(), [][]int{{x}})
}

// TestWord: of temps and numbers (F22.2).
func TestWord(t *testing.T) {
	for _, w := range widths() {
		b := begin(t, code(t, fmt.Sprintf("width %d; out x; secret k;", w), 3))
		is(t, "x", b.word(temp(0)), b.constant(0))
		is(t, "k", b.word(temp(1)), b.in[0])
		is(t, "the last temp", b.word(temp(2)), b.constant(0))
		for _, x := range edges(w) {
			is(t, fmt.Sprint("the number ", x), b.word(number(x)), b.constant(x))
		}
		b.do(ins(api.EAdd, 2, temp(1), number(1)))
		is(t, "behind an instruction", b.show(b.word(temp(2))), "(add i0 1)")
	}
}

// TestTruth: not (eq a 0), made simple (F22.2).
func TestTruth(t *testing.T) {
	b := begin(t, code(t, "width 8; secret k; out x; secret n;", 6,
		ins(api.EAdd, 3, temp(0), number(1)), ins(api.ELt, 4, temp(0), temp(2)), ins(api.ESub, 5, temp(0), temp(2))))
	for _, x := range b.f.Code {
		b.do(x)
	}
	for _, r := range []struct {
		a    api.Arg
		want string
	}{
		{temp(0), "(not (eq i0 0))"},
		{temp(1), "F"},
		{temp(3), "(not (eq i0 255))"},
		{temp(4), "(ult i0 i1)"},
		{temp(5), "(not (eq i0 i1))"},
		{number(0), "F"},
		{number(1), "T"},
		{number(255), "T"},
	} {
		truth, e := b.s.Truth(r.a)
		is(t, fmt.Sprint("Truth of ", r.a), []any{b.show(truth), e}, []any{r.want, api.OK})
		word := b.word(r.a)
		eq, _ := b.m.Bin(api.OpEq, word, b.constant(0))
		not, _ := b.m.Un(api.OpNot, eq)
		is(t, fmt.Sprint("Truth of ", r.a), truth, not)
	}
}

// TestNoArgument: what is no argument of the code (F22.2).
func TestNoArgument(t *testing.T) {
	for _, w := range widths() {
		b := begin(t, code(t, fmt.Sprintf("width %d; secret k; out x[2];", w), 3))
		wrong := []api.Arg{
			temp(3), temp(-2), temp(math.MaxInt), temp(math.MinInt), temp(1 << 32),
			{Temp: 0, Num: 1}, {Temp: 2, Num: math.MaxUint64}, {Temp: -2, Num: 1}, {Temp: 3, Num: 1},
		}
		if w < 64 {
			wrong = append(wrong, number(top(w)+1), number(math.MaxUint64), number(1<<63))
		}
		terms := b.m.Store().Len()
		for _, a := range wrong {
			x, e := b.s.Word(a)
			is(t, fmt.Sprint("Word of ", a), []any{x, e}, []any{0, api.ErrArg})
			x, e = b.s.Truth(a)
			is(t, fmt.Sprint("Truth of ", a), []any{x, e}, []any{0, api.ErrArg})
		}
		is(t, "the terms", b.m.Store().Len(), terms)
	}
	b := begin(t, code(t, "width 8;", 0))
	if x, e := b.s.Word(temp(0)); x != 0 || e != api.ErrArg {
		t.Fatal("no temp at all: ", x, e)
	}
}

// TestNoState: what a nil state answers (F22.2, F22.3).
func TestNoState(t *testing.T) {
	for _, s := range []*State{nil, new(State)} {
		for _, a := range []api.Arg{temp(0), number(0), temp(-5)} {
			x, e := s.Word(a)
			is(t, "Word", []any{x, e}, []any{0, api.ErrNil})
			x, e = s.Truth(a)
			is(t, "Truth", []any{x, e}, []any{0, api.ErrNil})
		}
		for _, x := range []api.Ins{{}, release(number(0)), branch(number(0), nil, nil), {Op: 99}} {
			event, seen, e := s.Do(x)
			is(t, "Do", []any{event, seen, e}, []any{Event{}, false, api.ErrNil})
		}
		is(t, "Words", len(s.Words()), 0)
		if c := s.Clone(); c != nil {
			t.Fatal("a clone of nothing")
		}
	}
}
