package symex

import (
	"fmt"
	"math"
	"testing"

	"cadence/api"
	"cadence/eval"
	"cadence/simp"
)

// TestFollow: of the ways the one that is gone with some values (F22.5, P2202).
func TestFollow(t *testing.T) {
	b := begin(t, program(t, "width 8; secret k; public n; out x; begin if k { if n == 3 { x = 1; } } else { x = k; if n { x = n; } } if x { release x; } end"))
	ways, more := b.paths(99)
	is(t, "ways", []any{len(ways), more}, []any{6, false})
	for _, r := range []struct {
		vals []api.Value
		way  int
	}{
		{b.told(5, 3), 0},
		{b.told(5, 4), 1},
		{b.told(0, 9), 2},
		{b.told(0, 0), 5},
		{nil, 5},                // what is not told is 0
		{b.told(7), 1},          // likewise
		{b.told(5, 3)[1:], 2},   // likewise
		{b.told(5, 3, 9, 9), 0}, // what the words do not have
		{append(b.told(5, 3), api.Value{Name: "other", W: 0, Num: 1}), 0},
		{append(b.told(5, 3), api.Value{Name: "i2", W: 64, Num: math.MaxUint64}), 0},
	} {
		samePath(t, fmt.Sprint("with ", r.vals), b.follow(r.vals), ways[r.way])
	}
	// No values lead to the others, of which two conditions are never true together.
	is(t, "the way 3", b.shows(ways[3].Conds), not0+", "+set1+", "+not1)
	is(t, "the way 4", b.shows(ways[4].Conds), not0+", "+not1+", "+set0)
}

// TestFollowSimple: truths that are T or F make no condition, but their event (F22.5).
func TestFollowSimple(t *testing.T) {
	b := begin(t, program(t, "width 8; secret k; out x; begin if 1 { x = 3; } if x - 3 { x = 9; } else { if k { x = k; } } if k | 255 { } if 0 { } else { release x; } end"))
	is(t, "with 7", b.showPath(b.follow(b.told(7))), set0+"; branch 1, branch 0, branch 1, branch 1, branch 0, release i0; (i0) (i0)")
	is(t, "with 0", b.showPath(b.follow(b.told(0))), not0+"; branch 1, branch 0, branch 0, branch 1, branch 0, release 3; (i0) (3)")
	b = begin(t, program(t, "out x; begin end"))
	is(t, "nothing", b.showPath(b.follow(nil)), "; ; (0)")
}

// TestFollowWords: with words of the inputs that are no variables (F22.5).
func TestFollowWords(t *testing.T) {
	f := program(t, "width 8; secret k; secret n; out x; begin if k < n { x = 1; } if k { x = x + 2; } end")
	m := simp.New()
	v, _ := m.Var("v", 8)
	w, _ := m.Var("w", 8)
	sum, _ := m.Bin(api.OpAdd, v, w)
	five, _ := m.Const(8, 5)
	told := func(x, y uint64) []api.Value {
		return []api.Value{{Name: "w", W: 8, Num: y}, {Name: "v", W: 8, Num: x}}
	}
	b := beginWith(t, f, m, []int{sum, v})
	is(t, "200 and 100", b.showPath(b.follow(told(200, 100))), "(ult (add v w) v), (not (eq (add v w) 0)); branch 1, branch 1; ((add v w)) (v) (3)")
	is(t, "200 and 56", b.showPath(b.follow(told(200, 56))), "(ult (add v w) v), (eq (add v w) 0); branch 1, branch 0; ((add v w)) (v) (1)")
	is(t, "1 and 2", b.showPath(b.follow(told(1, 2))), "(not (ult (add v w) v)), (not (eq (add v w) 0)); branch 0, branch 1; ((add v w)) (v) (2)")
	b = beginWith(t, f, m, []int{five, five})
	is(t, "constants", b.showPath(b.follow(told(200, 100))), "; branch 0, branch 1; (5) (5) (2)")
	b = beginWith(t, f, m, []int{v, v})
	is(t, "one twice", b.showPath(b.follow(told(0, 1))), "(eq v 0); branch 0, branch 0; (v) (v) (0)")
}

// TestFollowRefused: the errors of eval.Values, and that nothing is made beside them (F22.5).
func TestFollowRefused(t *testing.T) {
	f := program(t, "width 8; secret k; public n; const T[2] = 77, 78; out x; begin if k { x = T[n]; } end")
	m := simp.New()
	in := variables(t, f, m)
	terms := m.Store().Len()
	for _, r := range []struct {
		vals []api.Value
		want api.Errno
	}{
		{[]api.Value{{Name: "i0", W: 8, Num: 1}, {Name: "i0", W: 8, Num: 1}}, api.ErrName}, // told twice
		{[]api.Value{{Name: "z", W: 8, Num: 1}, {Name: "i0", W: 8}, {Name: "z", W: 4, Num: 1}}, api.ErrName},
		{[]api.Value{{Name: "", W: 8, Num: 1}}, api.ErrName},
		{[]api.Value{{Name: "1", W: 8, Num: 1}}, api.ErrName},
		{[]api.Value{{Name: "i0", W: 8, Num: 256}}, api.ErrWidth},
		{[]api.Value{{Name: "i0", W: 65}}, api.ErrWidth},
		{[]api.Value{{Name: "z", W: -1}}, api.ErrWidth},
		{[]api.Value{{Name: "z", W: 0, Num: 2}}, api.ErrWidth},
		{[]api.Value{{Name: "i1", W: 7, Num: 1}}, api.ErrSort},
		{[]api.Value{{Name: "i0", W: 0, Num: 1}}, api.ErrSort},
		{[]api.Value{{Name: "i0", W: 4, Num: 1}, {Name: "z", W: 8, Num: 256}}, api.ErrWidth},
		{[]api.Value{{Name: "i0", W: 4, Num: 1}, {Name: "z", W: 8, Num: 256}, {Name: "é"}}, api.ErrName},
	} {
		p, e := Follow(f, m, in, r.vals)
		is(t, fmt.Sprint(r.vals), []any{fmt.Sprintf("%#v", p), e}, []any{fmt.Sprintf("%#v", Path{}), r.want})
		_, e = eval.Values(m.Store(), in, r.vals)
		is(t, fmt.Sprint("Values of ", r.vals), e, r.want)
		is(t, "the terms", m.Store().Len(), terms)
	}
	// Of a variable that the inputs have not nothing is asked but that it may be.
	if _, e := Follow(f, m, in, []api.Value{{Name: "i2", W: 3, Num: 7}}); e != api.OK {
		t.Fatal(e)
	}
	// Without any input, too.
	if _, e := Follow(program(t, "out x; begin end"), simp.New(), nil, []api.Value{{Name: "-"}}); e != api.ErrName {
		t.Fatal(e)
	}
}
