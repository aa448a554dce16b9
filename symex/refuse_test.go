package symex

import (
	"fmt"
	"math"
	"testing"

	"cadence/api"
	"cadence/flat"
)

// wrongIns: instructions that could not stand in code of 8 bits with the singles k, x, the table T (2), the array a (3), and 3 temps.
func wrongIns() map[string]api.Ins {
	wrong := map[string]api.Ins{
		"nothing":                        {},
		"no temp":                        ins(api.FCopy, 3, temp(0)),
		"a temp below 0":                 ins(api.FCopy, -1, temp(0)),
		"the greatest temp":              ins(api.EAdd, math.MaxInt, temp(0), temp(0)),
		"a load to no temp":              load(3, 2, temp(0)),
		"a second argument of one":       ins(api.ECom, 0, temp(0), number(0)),
		"a third argument of two":        ins(api.EAdd, 0, temp(0), temp(0), number(0)),
		"a temp as a third":              ins(api.EAdd, 0, temp(0), temp(0), temp(1)),
		"a word of a load":               {Op: api.FLoad, Array: 3, B: number(0)},
		"a third argument of a store":    {Op: api.FStore, Array: 3, C: temp(1)},
		"a second one of a release":      {Op: api.FRelease, B: temp(1)},
		"the Dst of a store":             {Op: api.FStore, Array: 3, Dst: 1},
		"the Dst of a release":           {Op: api.FRelease, Dst: 1},
		"the array of a copy":            {Op: api.FCopy, Array: 3},
		"the array of a release":         {Op: api.FRelease, Array: 3},
		"the array of a division":        {Op: api.EDiv, Array: -1},
		"a load of a single":             load(0, 0, temp(0)),
		"a load of no declaration":       load(0, 4, temp(0)),
		"a load below all":               load(0, -1, temp(0)),
		"a load of the greatest":         load(0, math.MaxInt, temp(0)),
		"a store to a single":            store(1, temp(0), temp(0)),
		"a store to a table":             store(2, temp(0), temp(0)),
		"a store to no declaration":      store(4, temp(0), temp(0)),
		"a store below all":              store(math.MinInt, temp(0), temp(0)),
		"a Then of no if":                {Op: api.FCopy, Then: list(ins(api.FCopy, 0, temp(0)))},
		"an Else of no if":               {Op: api.FRelease, Else: list(release(temp(0)))},
		"a load as an expression":        {Op: api.ELoad, Array: 3},
		"a number as an expression":      ins(api.ENum, 0, number(0)),
		"a name as an expression":        ins(api.EName, 0, temp(0)),
		"an if":                          branch(temp(0), nil, nil),
		"an if with parts":               branch(temp(0), list(release(temp(0))), list(release(temp(1)))),
		"an if of a wrong argument":      branch(temp(9), nil, nil),
		"an operation far above":         {Op: 1<<32 + api.FCopy},
		"an operation below all":         {Op: math.MinInt},
		"a store's second that is wrong": store(3, temp(0), number(256)),
	}
	for op := -3; op < 60; op++ {
		if op < api.ECom || op > api.ESel && op < api.FCopy || op > api.FRelease {
			wrong[fmt.Sprint("the operation ", op)] = ins(op, 0, temp(0), temp(0))
			wrong[fmt.Sprint("the operation alone ", op)] = api.Ins{Op: op}
		}
	}
	return wrong
}

// TestDoRefused: an if, and what could not stand in the code: ErrArg, and nothing is done or made (F22.3, rule 2).
func TestDoRefused(t *testing.T) {
	b := begin(t, code(t, "width 8; secret k; out x; const T[2] = 5, 6; secret a[2];", 3))
	before, terms := fmt.Sprint(b.s.Words()), b.m.Store().Len()
	refused := func(what string, x api.Ins) {
		t.Helper()
		event, seen, e := b.s.Do(x)
		is(t, what, []any{event, seen, e}, []any{Event{}, false, api.ErrArg})
		is(t, what+": the words", b.s.Words(), before)
		is(t, what+": the terms", b.m.Store().Len(), terms)
	}
	for what, x := range wrongIns() {
		refused(what, x)
	}
	bad := []api.Arg{temp(3), temp(-2), temp(math.MinInt), {Temp: 1, Num: 1}, number(256), number(math.MaxUint64), {Temp: -3, Num: 4}}
	for _, op := range append(wordOps(), api.FLoad, api.FStore, api.FRelease) {
		x, has := rightIns(op)
		for i := range has {
			for _, a := range bad {
				y := x
				*[]*api.Arg{&y.A, &y.B, &y.C}[i] = a
				refused(fmt.Sprint("the operation ", op, " of ", a), y)
			}
		}
		if _, _, e := b.s.Clone().Do(x); e != api.OK {
			t.Fatal("refused, though it could stand there: ", x, e)
		}
		terms = b.m.Store().Len()
	}
	for w, x := range map[int]uint64{4: 16, 16: 1 << 16, 32: 1 << 32} {
		c := begin(t, code(t, fmt.Sprintf("width %d; out x;", w), 1))
		_, _, e := c.s.Do(release(number(x)))
		is(t, fmt.Sprint("beyond width ", w), e, api.ErrArg)
		_, _, e = c.s.Do(release(number(x - 1)))
		is(t, fmt.Sprint("within width ", w), e, api.OK)
	}
}

// rightIns: an instruction of an operation that could stand there, and how many arguments it has.
func rightIns(op int) (api.Ins, int) {
	switch op {
	case api.FLoad:
		return load(1, 2, temp(0)), 1
	case api.FStore:
		return store(3, temp(0), number(7)), 2
	case api.FRelease:
		return release(temp(0)), 1
	}
	return ins(op, 1, []api.Arg{temp(0), number(3), temp(2)}[:partsOf(op)]...), partsOf(op)
}

// TestDoAsMay: Do takes just what flat.May would take in the place of all code, but ifs (F22.3).
func TestDoAsMay(t *testing.T) {
	k := picker(19)
	f := code(t, "width 8; secret k; out x; const T[2] = 5, 6; secret a[2];", 3)
	b := begin(t, f)
	taken, refused := 0, 0
	try := func(x api.Ins) {
		t.Helper()
		g, want := f, api.OK
		g.Code = list(x)
		if x.Op == api.FIf || !flat.May(g) {
			want = api.ErrArg
			refused++
		} else {
			taken++
		}
		if _, _, e := b.s.Clone().Do(x); e != want {
			t.Fatalf("%+v: %d, not %d", x, e, want)
		}
	}
	for range 30000 {
		x, _ := rightIns(pick(&k, append(wordOps(), api.FLoad, api.FLoad, api.FStore, api.FStore, api.FRelease)...))
		for range k.below(3) {
			spoilIns(&k, &x)
		}
		try(x)
	}
	for _, x := range wrongIns() {
		try(x)
	}
	if taken < 5000 || refused < 5000 {
		t.Fatal("too few: ", taken, refused)
	}
}

// spoilIns: another word in one of an instruction's fields.
func spoilIns(k *picker, x *api.Ins) {
	switch k.below(7) {
	case 0:
		x.Op = pick(k, append(wordOps(), api.FLoad, api.FStore, api.FRelease, api.FIf, 3, 27, 36)...)
	case 1:
		x.Dst = pick(k, 0, 1, 2, 3, -1)
	case 2:
		x.Array = pick(k, 0, 1, 2, 3, 4, -1)
	case 3:
		x.Then = list(release(temp(0)))
	default:
		a := pick(k, temp(0), temp(1), temp(2), temp(3), temp(-2), number(0), number(255), number(256), api.Arg{Temp: 1, Num: 1})
		*pick(k, &x.A, &x.B, &x.C) = a
	}
}
