package pair

import (
	"fmt"
	"math"
	"strings"
	"testing"

	"cadence/api"
	"cadence/flat"
)

// TestStart: a way at its beginning: nothing assumed, no event, and the words of the chapter's section 'What a way keeps' (P2301).
func TestStart(t *testing.T) {
	g := start(t, code(t, "width 8; var v; secret k; const T[2] = 5, 255; public n; secret s[2]; out a[2]; public m[2]; out x; secret z; var b[1];", 8))
	g.so(0, "")
	for i, want := range []string{"0 | 0", "x0 | y0", "p1 | p1", "0 | 0", "x6 | y6", "0 | 0", "0 | 0", "0 | 0"} {
		is(t, fmt.Sprint("the temp ", i), g.words(i), want)
	}
	for i, want := range map[int]string{2: "5, 255 | 5, 255", 4: "x2, x3 | y2, y3", 5: "0, 0 | 0, 0", 6: "p4, p5 | p4, p5", 9: "0 | 0"} {
		is(t, fmt.Sprint("the array ", i), g.arrays(i), want)
	}
	g.is(-1, End, "", 0)
	g.so(0, "")
}

// TestSorts: the words at the beginning have the code's width, and stand in one store (P2301, P2305).
func TestSorts(t *testing.T) {
	for _, w := range widths() {
		g := start(t, code(t, fmt.Sprintf("width %d; secret k; public n[2]; const T[1] = 3; out x;", w), 3))
		terms := append(g.cells(1, 1), g.word(1, 0), g.word(2, 0), g.word(1, 1), g.word(2, 2))
		for _, x := range append(terms, append(g.cells(2, 1), append(g.cells(1, 2), g.cells(2, 2)...)...)...) {
			n, e := g.w.Store().Node(x)
			is(t, "its width", []any{n.W, e}, []any{w, api.OK})
		}
	}
}

// TestManyPositions: positions have their decimal numbers, up to the last one that may be (P2301).
func TestManyPositions(t *testing.T) {
	head := "width 8;"
	for i := range 16 {
		head += fmt.Sprintf(" %s a%d[256];", []string{"secret", "public"}[i%2], i)
	}
	g := start(t, code(t, head, 0))
	for i := range 16 {
		one, two := g.cells(1, i), g.cells(2, i)
		for n := range 256 {
			at := i*256 + n
			want := fmt.Sprintf("x%d y%d", at, at)
			if i%2 == 1 {
				want = fmt.Sprintf("p%d p%d", at, at)
			}
			is(t, "a cell", g.show(one[n])+" "+g.show(two[n]), want)
		}
	}
}

// TestNoCode: without declarations, temps, instructions (P2301).
func TestNoCode(t *testing.T) {
	g := start(t, api.Flat{Width: 4, Line: 1})
	g.so(0, "")
	for range 2 {
		g.is(0, End, "", 0)
	}
	_, e := g.w.Word(1, 0)
	is(t, "Word", e, api.ErrArg)
	_, e = g.w.Cells(1, 0)
	is(t, "Cells", e, api.ErrArg)
	if g.w.Store() == nil {
		t.Fatal("no store")
	}
}

// TestOwnMaker: each Start has a maker of its own (P2301).
func TestOwnMaker(t *testing.T) {
	f := program(t, chapterText)
	a, b := start(t, f), start(t, f)
	if a.w.Store() == b.w.Store() {
		t.Fatal("one store for two")
	}
	a.w.Next(-1)
	b.so(0, "")
	b.is(-1, Differ, "(xor "+lowX+" "+lowY+")", 16)
}

// wrongCodes: flat code that may not be.
func wrongCodes(t testing.TB) map[string]api.Flat {
	t.Helper()
	right := code(t, "width 8; line 2; secret k; out x; const T[2] = 5, 6; var a[2];", 3, ins(api.FCopy, 2, temp(0)))
	wrong := map[string]api.Flat{"nothing": {}}
	with := func(what string, change func(*api.Flat)) {
		f := right
		f.Decls = append([]api.Decl(nil), right.Decls...)
		change(&f)
		wrong[what] = f
	}
	with("no width", func(f *api.Flat) { f.Width = 0 })
	with("a width of 7", func(f *api.Flat) { f.Width = 7 })
	with("a width below 0", func(f *api.Flat) { f.Width = math.MinInt })
	with("no line", func(f *api.Flat) { f.Line = 0 })
	with("a line of 3", func(f *api.Flat) { f.Line = 3 })
	with("a line of 512", func(f *api.Flat) { f.Line = 512 })
	with("too few temps", func(f *api.Flat) { f.Temps, f.Code = 1, nil })
	with("too many temps", func(f *api.Flat) { f.Temps = 1<<20 + 1 })
	with("temps below 0", func(f *api.Flat) { f.Temps = -1 })
	with("one name twice", func(f *api.Flat) { f.Decls[1].Name = "k" })
	with("a size of 3", func(f *api.Flat) { f.Decls[3].Size = 3 })
	with("a table with too few words", func(f *api.Flat) { f.Decls[2].Values = []uint64{5} })
	with("a table with too great a word", func(f *api.Flat) { f.Decls[2].Values = []uint64{5, 256} })
	with("values of none that is a table", func(f *api.Flat) { f.Decls[3].Values = []uint64{1, 2} })
	with("no kind", func(f *api.Flat) { f.Decls[0].Kind = 0 })
	for what, x := range map[string]api.Ins{
		"no operation":                {},
		"no such operation":           {Op: 36},
		"no such temp":                ins(api.FCopy, 3, temp(0)),
		"no such argument":            ins(api.FCopy, 0, temp(3)),
		"too great a number":          ins(api.FCopy, 0, number(256)),
		"an argument with both":       ins(api.FCopy, 0, api.Arg{Temp: 1, Num: 1}),
		"an argument too many":        ins(api.FCopy, 0, temp(0), temp(1)),
		"a load of a single":          load(0, 1, temp(0)),
		"a store to a table":          store(2, temp(0), temp(0)),
		"an array that is none":       load(0, 4, temp(0)),
		"a part of what is no if":     {Op: api.FRelease, Then: list(release(temp(0)))},
		"a wrong one within an if":    branch(temp(0), nil, list(ins(api.FCopy, 3, temp(0)))),
		"a wrong argument of an if":   branch(temp(3), nil, nil),
		"a wrong argument of release": release(temp(-2)),
	} {
		with(what, func(f *api.Flat) { f.Code = list(x) })
	}
	deep := list(branch(temp(0), nil, nil))
	for range 64 {
		deep = list(branch(temp(0), deep, nil))
	}
	with("65 ifs within one another and one more", func(f *api.Flat) { f.Code = list(branch(temp(0), nil, deep)) })
	with("too many instructions", func(f *api.Flat) {
		f.Code = make([]api.Ins, 1<<18+1)
		for i := range f.Code {
			f.Code[i] = ins(api.FCopy, 0, temp(0))
		}
	})
	return wrong
}

// TestStartRefused: code that may not be: ErrArg, and no way (P2301).
func TestStartRefused(t *testing.T) {
	for what, f := range wrongCodes(t) {
		is(t, what+": May", flat.May(f), false)
		w, e := Start(f)
		is(t, what, []any{w == nil, e}, []any{true, api.ErrArg})
	}
}

// TestMayBe: what flat.May lets pass, Start does, and nothing else (P2301).
func TestMayBe(t *testing.T) {
	k := picker(2301)
	taken := 0
	for range 4000 {
		f := anyFlat(t, &k, 6, 2)
		if k.below(3) > 0 {
			spoil(&k, &f)
		}
		w, e := Start(f)
		want := api.OK
		if !flat.May(f) {
			want = api.ErrArg
		} else {
			taken++
		}
		if e != want || (w != nil) != (e == api.OK) {
			t.Fatalf("%v, %d, not %d, of %s", w, e, want, shown(f))
		}
	}
	if taken < 1000 || taken > 3500 {
		t.Fatal("too few of one sort: ", taken)
	}
}

// spoil: another number in one place of flat code.
func spoil(k *picker, f *api.Flat) {
	numbers := []int{-1, 0, 1, 2, 3, 4, 5, 7, 8, 9, 16, 1 << 20, 1<<20 + 1, math.MaxInt, math.MinInt}
	switch n := pick(k, numbers...); k.below(7) {
	case 0:
		f.Width = n
	case 1:
		f.Line = n
	case 2:
		f.Temps = n
	case 3:
		f.Decls[k.below(len(f.Decls))].Size = n
	case 4:
		f.Decls[k.below(len(f.Decls))].Kind = n
	default:
		if len(f.Code) > 0 {
			x := &f.Code[k.below(len(f.Code))]
			*pick(k, &x.Op, &x.Dst, &x.Array, &x.A.Temp, &x.B.Temp) = n
		}
	}
}

// TestNone: a way that no Start made answers nothing, and ErrNil (rule 1).
func TestNone(t *testing.T) {
	for _, w := range []*Way{nil, {}} {
		is(t, "Next", w.Next(-1), Ask{})
		is(t, "Agree", w.Agree(), api.ErrNil)
		a, b, e := w.Fork()
		is(t, "Fork", []any{a == nil, b == nil, e}, []any{true, true, api.ErrNil})
		is(t, "looks", []any{w.Store() == nil, len(w.Assumed()), w.Events()}, []any{true, 0, 0})
		word, e := w.Word(1, 0)
		is(t, "Word", []any{word, e}, []any{0, api.ErrNil})
		cells, e := w.Cells(1, 0)
		is(t, "Cells", []any{len(cells), e}, []any{0, api.ErrNil})
	}
}

// TestDeepest: as many ifs within one another as there may be, with all that they have in one part (P2301, P2304).
func TestDeepest(t *testing.T) {
	deep := list(ins(api.FCopy, 1, number(7)))
	for range 64 {
		deep = list(branch(temp(0), deep, nil))
	}
	g := start(t, code(t, "width 8; public n; out x;", 2, deep...))
	for i := range 64 {
		g.is(-1, Branch, "(not (eq p0 0))", 2)
		g.so(i+1, strings.Repeat("(not (eq p0 0))", min(i, 1)))
		g, _ = g.fork()
	}
	g.is(-1, End, "", 2)
	is(t, "x", g.words(1), "7 | 7")
}
