package flat

import (
	"fmt"
	"math"
	"slices"
	"strings"
	"testing"

	"cadence/api"
	"cadence/wf"
)

// refused: code that may not be: each call says so, first of all (F19.1 to F19.5).
func refused(t testing.TB, what string, f api.Flat) {
	t.Helper()
	if May(f) {
		t.Fatalf("%s: may be: %s", what, shownFlat(f))
	}
	n, e := Size(f)
	is(t, what+": Size", []any{n, e}, []any{0, api.ErrArg})
	for _, in := range [][]uint64{nil, {1}, {1, 2, 3, 4}, make([]uint64, min(max(lengthOf(f.Decls), 0), 5000))} { // lengths that are wrong, too
		a, e := Run(f, in)
		is(t, what+": Run", []any{a.State == nil, a.Trace == nil, e}, []any{true, true, api.ErrArg})
	}
	zero := fmt.Sprint(api.Flat{})
	g, e := Drop(f)
	is(t, what+": Drop", []any{fmt.Sprint(g), e}, []any{zero, api.ErrArg})
	g, e = Fold(f)
	is(t, what+": Fold", []any{fmt.Sprint(g), e}, []any{zero, api.ErrArg})
	s, e := Text(f)
	is(t, what+": Text", []any{s, e}, []any{"", api.ErrArg})
}

// taken: code that may be: each call takes it.
func taken(t testing.TB, what string, f api.Flat) {
	t.Helper()
	if !May(f) {
		t.Fatalf("%s: may not be: %s", what, shownFlat(f))
	}
	in := make([]uint64, lengthOf(f.Decls))
	n := sizeOf(t, f)
	a := ranWith(t, f, in)
	g := folded(t, f)
	is(t, what+": the size of Fold", sizeOf(t, g), n)
	if b := ranWith(t, g, in); fmt.Sprint(a) != fmt.Sprint(b) {
		t.Fatalf("%s: Fold ends with %v, not %v", what, b, a)
	}
	g = dropped(t, f)
	if b := ranWith(t, g, in); fmt.Sprint(a.Trace) != fmt.Sprint(b.Trace) || sizeOf(t, g) > n {
		t.Fatalf("%s: Drop shows %v, not %v", what, b.Trace, a.Trace)
	}
	textOf(t, f)
}

const mayHead = "width 8; line 2; secret k; public n; const T[4] = 1, 2, 3, 4; out x; var a[2]; secret b[4];"

// mayBase: two temps beside the three singles', and no instruction.
func mayBase(t testing.TB, code ...api.Ins) api.Flat {
	t.Helper()
	f := bareFlat(t, mayHead, 5)
	f.Code = code
	return f
}

// turned: something of flat code turned.
func turnedFlat(f api.Flat, turn func(f *api.Flat)) api.Flat {
	f = plainFlat(f)
	turn(&f)
	return f
}

// TestHeads: a Width, a Line, or Decls that are not right (F19.1).
func TestHeads(t *testing.T) {
	base := mayBase(t, readCode(t, mayBase(t).Decls, "t3 = add t0 1; t4 = T[t3]; a[t4] = t0; if t4 { release t3 }")...)
	taken(t, "as it is", base)
	width := func(n int) api.Flat { return turnedFlat(base, func(f *api.Flat) { f.Width = n }) }
	for _, n := range []int{4, 8, 16, 32, 64} {
		taken(t, fmt.Sprint("width ", n), width(n))
	}
	for _, n := range []int{0, 1, 2, 3, 5, 7, 12, 24, 33, 63, 65, 128, -1, -8, math.MaxInt, math.MinInt} {
		refused(t, fmt.Sprint("width ", n), width(n))
	}
	line := func(n int) api.Flat { return turnedFlat(base, func(f *api.Flat) { f.Line = n }) }
	for _, n := range []int{1, 2, 4, 8, 16, 32, 64, 128, 256} {
		taken(t, fmt.Sprint("line ", n), line(n))
	}
	for _, n := range []int{0, 3, 5, 255, 257, 512, -1, -2, math.MaxInt, math.MinInt} {
		refused(t, fmt.Sprint("line ", n), line(n))
	}
	for what, turn := range map[string]func(d []api.Decl){
		"a kind":               func(d []api.Decl) { d[0].Kind = 0 },
		"a kind that is none":  func(d []api.Decl) { d[1].Kind = 6 },
		"no name":              func(d []api.Decl) { d[0].Name = "" },
		"a name that is none":  func(d []api.Decl) { d[0].Name = "1k" },
		"a reserved name":      func(d []api.Decl) { d[0].Name = "sel" },
		"a long name":          func(d []api.Decl) { d[0].Name = strings.Repeat("k", 25) },
		"a name twice":         func(d []api.Decl) { d[0].Name = "x" },
		"an array's name too":  func(d []api.Decl) { d[0].Name = "b" },
		"a size below 0":       func(d []api.Decl) { d[4].Size = -2 },
		"a size of 3":          func(d []api.Decl) { d[4].Size = 3 },
		"a size of 512":        func(d []api.Decl) { d[4].Size = 512 },
		"values too few":       func(d []api.Decl) { d[2].Values = d[2].Values[:3] },
		"values too many":      func(d []api.Decl) { d[2].Values = append(d[2].Values, 1) },
		"no values":            func(d []api.Decl) { d[2].Values = nil },
		"a table of no size":   func(d []api.Decl) { d[2].Size = 0 },
		"a value too wide":     func(d []api.Decl) { d[2].Values[3] = 256 },
		"values of no table":   func(d []api.Decl) { d[0].Values = []uint64{1} },
		"values of an array":   func(d []api.Decl) { d[4].Values = []uint64{1, 2} },
		"a single as a table":  func(d []api.Decl) { d[0].Kind = api.DConst },
		"a table as an input":  func(d []api.Decl) { d[2].Kind = api.DSecret },
		"a size far too great": func(d []api.Decl) { d[5].Size = math.MaxInt },
	} {
		refused(t, what, turnedFlat(base, func(f *api.Flat) { turn(f.Decls) }))
	}
	taken(t, "a name as the program's", turnedFlat(base, func(f *api.Flat) { f.Decls[0].Name = "p" }))
	taken(t, "a name of 24 bytes", turnedFlat(base, func(f *api.Flat) { f.Decls[0].Name = strings.Repeat("k", 24) }))
	manyDecls(t)
}

// manyDecls: as many declarations, and input words, as there may be, and one more.
func manyDecls(t testing.TB) {
	t.Helper()
	with := func(n, size int) api.Flat {
		f := api.Flat{Width: 8, Line: 1, Temps: 300}
		for i := range n {
			f.Decls = append(f.Decls, api.Decl{Kind: api.DSecret, Name: fmt.Sprint("d", i), Size: size})
		}
		return f
	}
	taken(t, "256 declarations", with(256, 0))
	refused(t, "257 declarations", with(257, 0))
	taken(t, "4096 input words", with(16, 256))
	refused(t, "more than 4096 input words", with(17, 256))
	f := with(16, 256)
	f.Decls = append(f.Decls, api.Decl{Kind: api.DPublic, Name: "n"})
	refused(t, "4097 input words", f)
}

// TestTemps: below the singles', at it, at 2^20, and above it (F19.1).
func TestTemps(t *testing.T) {
	base := mayBase(t)
	for _, n := range []int{3, 4, 5, 100, 1<<20 - 1, 1 << 20} {
		base.Temps = n
		taken(t, fmt.Sprint(n, " temps"), base)
		base.Code = []api.Ins{{Op: api.FCopy, Dst: n - 1, A: api.Arg{Temp: n - 1}}, {Op: api.FRelease, A: api.Arg{Temp: n - 1}}}
		taken(t, fmt.Sprint("the last of ", n, " temps"), base)
		base.Code = nil
	}
	for _, n := range []int{2, 1, 0, -1, -5, 1<<20 + 1, 1 << 21, 1 << 40, math.MaxInt, math.MinInt} {
		base.Temps = n
		refused(t, fmt.Sprint(n, " temps"), base)
	}
	none := api.Flat{Width: 8, Line: 1, Decls: []api.Decl{{Kind: api.DVar, Name: "a", Size: 2}}}
	taken(t, "no temp, and no single", none)
	none.Code = []api.Ins{{Op: api.FStore, A: number(1), B: number(2)}, {Op: api.FRelease, A: number(3)}, {Op: api.FIf, A: number(1), Then: []api.Ins{{Op: api.FRelease, A: number(4)}}}}
	taken(t, "instructions without a temp", none)
	none.Temps = -1
	refused(t, "fewer than none", none)
	none.Temps = 0
	for _, x := range []api.Ins{{Op: api.FRelease}, {Op: api.FCopy, A: number(1)}, {Op: api.FIf}, {Op: api.FLoad, A: number(0)}, {Op: api.ECom, A: number(1)}, {Op: api.FStore, A: number(0)}} {
		none.Code = []api.Ins{x}
		refused(t, "a temp where there is none", none)
	}
	taken(t, "nothing", api.Flat{Width: 4, Line: 1})
	refused(t, "nothing at all", api.Flat{})
}

// releases: so many instructions, one behind the other.
func releases(n int) []api.Ins {
	return slices.Repeat([]api.Ins{{Op: api.FRelease, A: api.Arg{Temp: 0}}}, n)
}

// TestMostCode: as many instructions as there may be, and one more; in Then and Else too (F19.1).
func TestMostCode(t *testing.T) {
	const most = 1 << 18
	branch := func(then, otherwise int) api.Ins {
		return api.Ins{Op: api.FIf, A: api.Arg{Temp: 0}, Then: releases(then), Else: releases(otherwise)}
	}
	for _, r := range []struct {
		what string
		code []api.Ins
		more bool
	}{
		{"in a row", releases(most), false},
		{"in a row, one more", releases(most + 1), true},
		{"in Then", []api.Ins{branch(most-1, 0)}, false},
		{"in Then, one more", []api.Ins{branch(most, 0)}, true},
		{"in Else", []api.Ins{branch(0, most-1)}, false},
		{"in Else, one more", []api.Ins{branch(0, most)}, true},
		{"in both", []api.Ins{branch(most/2, most/2-1)}, false},
		{"in both, one more", []api.Ins{branch(most/2, most/2)}, true},
		{"behind", append([]api.Ins{branch(10, 20)}, releases(most-31)...), false},
		{"behind, one more", append([]api.Ins{branch(10, 20)}, releases(most-30)...), true},
		{"ahead", append(releases(most-31), branch(10, 20)), false},
		{"ahead, one more", append(releases(most-31), branch(20, 11)), true},
	} {
		f := mayBase(t, r.code...)
		if r.more {
			refused(t, r.what, f)
			continue
		}
		taken(t, r.what, f)
		is(t, r.what, sizeOf(t, f), most)
	}
}

// nested: an instruction within so many others, in Then or in Else of each.
func nested(n int, inner []api.Ins, inThen func(i int) bool) []api.Ins {
	for i := range n {
		x := api.Ins{Op: api.FIf, A: number(1)}
		if inThen(i) {
			x.Then = inner
		} else {
			x.A.Num = 0
			x.Else = inner
		}
		inner = []api.Ins{x}
	}
	return inner
}

// TestWithin: within 64 others, and within 65 (F19.1).
func TestWithin(t *testing.T) {
	ways := map[string]func(i int) bool{
		"Then": func(int) bool { return true },
		"Else": func(int) bool { return false },
		"both": func(i int) bool { return i%3 == 0 },
	}
	for what, inThen := range ways {
		for _, inner := range [][]api.Ins{releases(1), {{Op: api.FIf, A: api.Arg{Temp: 0}}}, releases(3)} {
			for _, n := range []int{0, 1, 63, 64} {
				f := mayBase(t, nested(n, inner, inThen)...)
				taken(t, what, f)
				is(t, what, sizeOf(t, f), n+len(inner))
			}
			for _, n := range []int{65, 66, 100, 1000} {
				refused(t, fmt.Sprint(what, " within ", n), mayBase(t, nested(n, inner, inThen)...))
			}
		}
	}
	deep := mayBase(t, nested(64, releases(1), ways["Then"])...)
	is(t, "what the deepest shows", toldTrace(ranWith(t, deep, make([]uint64, 6)).Trace), strings.Repeat("branch 1; ", 64)+"release 0")
	wrong := mayBase(t, nested(64, []api.Ins{{Op: api.FRelease, A: api.Arg{Temp: 5}}}, ways["both"])...)
	refused(t, "no temp, within 64", wrong)
	refused(t, "far too deep", mayBase(t, nested(60000, releases(1), ways["Then"])...))
}

// TestWithoutEnd: lists that stand in themselves, or in one another again and again (P1).
func TestWithoutEnd(t *testing.T) {
	self := []api.Ins{{Op: api.FIf, A: number(1)}, {Op: api.FIf, A: number(0)}}
	self[0].Then, self[0].Else, self[1].Then = self, self, self
	notEnding(t, "a list in itself", mayBase(t, self...))
	list := releases(1)
	for range 64 { // 2^64 instructions and more, were each counted
		list = []api.Ins{{Op: api.FIf, A: number(1), Then: list, Else: list}}
	}
	notEnding(t, "halves that are one", mayBase(t, list...))
	list = releases(1)
	for range 16 {
		list = []api.Ins{{Op: api.FIf, A: api.Arg{Temp: 0}, Then: list, Else: list}}
	}
	f := mayBase(t, list...)
	is(t, "its size", sizeOf(t, f), 1<<17-1)
	taken(t, "fewer halves", f)
	same(t, "Fold of halves", folded(t, f), f)
}

// notEnding: refused, and too great to be shown.
func notEnding(t testing.TB, what string, f api.Flat) {
	t.Helper()
	n, e := Size(f)
	_, e1 := Run(f, make([]uint64, 6))
	_, e2 := Drop(f)
	_, e3 := Fold(f)
	s, e4 := Text(f)
	is(t, what, []any{May(f), n, e, e1, e2, e3, s, e4}, []any{false, 0, api.ErrArg, api.ErrArg, api.ErrArg, api.ErrArg, "", api.ErrArg})
}

// whole: an instruction of each operation that may be.
func whole(op int) api.Ins {
	x := api.Ins{Op: op}
	dst, _, array, parts, _ := plainFields(op)
	for i, a := range plainArgs(&x) {
		*a = []api.Arg{{Temp: 3}, {Temp: -1, Num: 255}, {Temp: 0}}[i]
	}
	if dst {
		x.Dst = 4
	}
	if array {
		x.Array = 4
	}
	if parts {
		x.Then, x.Else = releases(1), releases(2)
	}
	return x
}

// insRefused: an instruction may not be: by itself, behind another, in Then, in Else, and deeper.
func insRefused(t testing.TB, what string, x api.Ins) {
	t.Helper()
	for _, code := range [][]api.Ins{
		{x},
		{releases(1)[0], x},
		{{Op: api.FIf, A: number(1), Then: []api.Ins{x}}},
		{{Op: api.FIf, A: number(1), Else: []api.Ins{x}}},
		{{Op: api.FIf, A: number(1), Then: releases(2), Else: []api.Ins{releases(1)[0], {Op: api.FIf, A: number(0), Then: []api.Ins{x}, Else: releases(1)}}}, releases(1)[0]},
	} {
		f := mayBase(t, code...)
		refused(t, fmt.Sprintf("%s of %+v", what, x), f)
		if plainMay(f) {
			t.Fatalf("%s: a plain reading takes %+v", what, x)
		}
	}
}

// TestOps: an Op that is none (F19.1).
func TestOps(t *testing.T) {
	for _, op := range allOps() {
		taken(t, fmt.Sprint("operation ", op), mayBase(t, whole(op)))
	}
	fits := map[int]bool{}
	for _, op := range allOps() {
		fits[op] = true
	}
	is(t, "how many", len(fits), 28)
	for op := -5; op < 200; op++ {
		if fits[op] {
			continue
		}
		insRefused(t, "an operation", api.Ins{Op: op})
		insRefused(t, "an operation", api.Ins{Op: op, Dst: 4, A: api.Arg{Temp: 0}})
		insRefused(t, "an operation", api.Ins{Op: op, Dst: 4, A: number(1), B: number(2), C: number(3), Array: 4, Then: releases(1)})
	}
	for _, op := range []int{math.MinInt, math.MaxInt, 1 << 32, 1<<32 + api.FCopy, api.FCopy - 256} {
		insRefused(t, "an operation", api.Ins{Op: op, A: number(1)})
	}
}

// TestDsts: below 0, at Temps (F19.1).
func TestDsts(t *testing.T) {
	for _, op := range allOps() {
		dst, _, _, _, _ := plainFields(op)
		for _, n := range []int{-1, -2, 5, 6, 1 << 20, math.MinInt, math.MaxInt} {
			x := whole(op)
			x.Dst = n
			insRefused(t, "Dst", x)
		}
		for n := range 5 {
			x := whole(op)
			x.Dst = n
			if dst || n == 0 {
				taken(t, "Dst", mayBase(t, x))
			} else {
				insRefused(t, "Dst", x)
			}
		}
	}
}

// TestArgs: an argument that is no temp, a number that is too great, a temp with a Num, and one where there is none (F19.1).
func TestArgs(t *testing.T) {
	wrong := []api.Arg{{Temp: 5}, {Temp: 6}, {Temp: 1 << 20}, {Temp: math.MaxInt}, {Temp: -2}, {Temp: -3}, {Temp: math.MinInt}, {Temp: -2, Num: 1}, {Temp: 0, Num: 1}, {Temp: 4, Num: 1}, {Temp: 3, Num: math.MaxUint64}, {Temp: -1, Num: 256}, {Temp: -1, Num: 257}, {Temp: -1, Num: 1 << 32}, {Temp: -1, Num: math.MaxUint64}}
	right := []api.Arg{{Temp: 0}, {Temp: 1}, {Temp: 4}, {Temp: -1}, {Temp: -1, Num: 1}, {Temp: -1, Num: 255}}
	for _, op := range allOps() {
		_, has, _, _, _ := plainFields(op)
		for i := range 3 {
			put := func(a api.Arg) api.Ins {
				x := whole(op)
				*[]*api.Arg{&x.A, &x.B, &x.C}[i] = a
				return x
			}
			for _, a := range wrong {
				insRefused(t, "an argument", put(a))
			}
			for _, a := range right {
				if i < has || a == (api.Arg{}) {
					taken(t, "an argument", mayBase(t, put(a)))
				} else {
					insRefused(t, "an argument too many", put(a))
				}
			}
		}
	}
	for _, width := range widths() {
		f := mayBase(t, api.Ins{Op: api.FRelease, A: number(top(width))})
		f.Width = width
		taken(t, fmt.Sprint("the greatest number of ", width), f)
		if width < 64 {
			f.Code[0].A.Num++
			refused(t, fmt.Sprint("2 to the ", width), f)
		}
	}
}

// TestArrays: an Array that is none, that is a single, that is a table of an FStore (F19.1).
func TestArrays(t *testing.T) {
	// 0 k, 1 n: singles; 2 T: a table; 3 x: a single; 4 a, 5 b: arrays
	for _, op := range allOps() {
		_, _, array, _, _ := plainFields(op)
		for _, n := range []int{-1, -2, 6, 7, 256, math.MinInt, math.MaxInt, 0, 1, 2, 3, 4, 5} {
			x := whole(op)
			x.Array = n
			fits := !array && n == 0 || array && (n == 4 || n == 5) || op == api.FLoad && n == 2
			if fits {
				taken(t, "an array", mayBase(t, x))
			} else {
				insRefused(t, "an array", x)
			}
		}
	}
}

// TestParts: Then and Else of what is no FIf (F19.1).
func TestParts(t *testing.T) {
	for _, op := range allOps() {
		for _, list := range [][]api.Ins{nil, {}} {
			x := whole(op)
			x.Then, x.Else = list, list
			taken(t, "empty parts", mayBase(t, x))
		}
		if op == api.FIf {
			continue
		}
		x := whole(op)
		x.Then = releases(1)
		insRefused(t, "Then", x)
		x.Then, x.Else = nil, releases(1)
		insRefused(t, "Else", x)
		x.Then = []api.Ins{}
		insRefused(t, "Else", x)
	}
}

// TestManyFaults: many pieces of flat code with one or two things turned, against the plain reading (F19.1).
func TestManyFaults(t *testing.T) {
	k := picker(1906)
	counts := map[bool]int{}
	for range 20000 {
		f := plainFlat(anyFlat(t, &k))
		for range 1 + k.below(2) {
			turnAny(&k, &f)
		}
		want := plainMay(f)
		if May(f) != want {
			t.Fatalf("%v, not %v, of %s", !want, want, shownFlat(f))
		}
		counts[want]++
	}
	if counts[true] < 3000 || counts[false] < 5000 {
		t.Fatal("too few: ", counts)
	}
}

// turnAny turns something of flat code.
func turnAny(k *picker, f *api.Flat) {
	odd := []int{-2, -1, 0, 1, 2, 3, 5, 8, 15, 256, 1 << 20, math.MaxInt, math.MinInt}
	var all []*api.Ins
	var gather func(list []api.Ins)
	gather = func(list []api.Ins) {
		for i := range list {
			all = append(all, &list[i])
			gather(list[i].Then)
			gather(list[i].Else)
		}
	}
	gather(f.Code)
	if len(all) == 0 || k.below(12) == 0 {
		switch k.below(3) {
		case 0:
			f.Temps = pickOf(k, odd...)
		case 1:
			f.Width = pickOf(k, 4, 5, 8, 16, 64, 0)
		default:
			f.Line = pickOf(k, 1, 2, 3, 4, 0)
		}
		return
	}
	x := all[k.below(len(all))]
	arg := []*api.Arg{&x.A, &x.B, &x.C}[k.below(3)]
	switch k.below(7) {
	case 0:
		x.Op = k.below(40)
	case 1:
		x.Dst = pickOf(k, odd...)
	case 2:
		arg.Temp = pickOf(k, odd...)
	case 3:
		arg.Num = pickOf[uint64](k, 0, 1, 15, 16, 255, 256, 1<<16, 1<<32, math.MaxUint64)
	case 4:
		x.Array = pickOf(k, odd...)
	case 5:
		x.Then = []api.Ins{{Op: api.FRelease, A: number(1)}}
	default:
		*x = api.Ins{Op: x.Op, A: x.A}
	}
}

// TestMakeWrong: programs that are not right: wf's error, and nothing else (F19.1).
func TestMakeWrong(t *testing.T) {
	const head = "secret k; public n; const T[2] = 1, 2; out x; var a[2]; "
	const body = "begin x = T[k]; if k { } x = 1 / k; a[k] = 1; end"
	list := []api.Program{{}}
	for _, turn := range []func(p *api.Program){
		func(p *api.Program) { p.Name = "if" },
		func(p *api.Program) { p.Body[0].Kind = 6 },
		func(p *api.Program) { p.Body[0].E.Kind = 27 },
		func(p *api.Program) { p.Body[2].E.Kids = p.Body[2].E.Kids[:1] },
		func(p *api.Program) { p.Body[3].At = api.Expr{} },
		func(p *api.Program) { p.Decls[4].Size = -1 },
		func(p *api.Program) { p.Width = -8 },
		func(p *api.Program) { p.Line = math.MinInt },
		func(p *api.Program) { p.Decls[2].Values = append(p.Decls[2].Values, 1) },
		func(p *api.Program) {
			for i := range 252 {
				p.Decls = append(p.Decls, api.Decl{Kind: api.DVar, Name: fmt.Sprint("d", i)})
			}
		},
		func(p *api.Program) {
			for range 60000 {
				p.Body[0].E = api.Expr{Kind: api.ENeg, Kids: []api.Expr{p.Body[0].E}}
			}
		},
	} {
		p := parsed(t, head+body)
		turn(&p)
		list = append(list, p)
	}
	for _, text := range []string{
		"width 5; " + head + body, "width 128; " + head + body, "line 3; " + head + body, "line 512; " + head + body,
		head + "var k; " + body, head + "var c[3]; " + body, head + "const U[4] = 1, 2; " + body, "width 4; " + head + "const U[1] = 16; " + body,
		head + manyInputs(17) + body,
		head + "begin x = " + strings.Repeat("~", 64) + "k; end", head + "begin " + strings.Repeat("if k { ", 65) + strings.Repeat("} ", 65) + "end",
		head + "begin x = y; end", head + "begin for i 0 2 { } x = i; end", head + "begin y = 1; end", head + "begin release y; end", head + "begin for i 0 0 { x = y; } end",
		head + "begin x = a; end", head + "begin x = k[1]; end", head + "begin T[0] = 1; end", head + "begin a = 1; end", head + "begin for i 0 2 { i = 1; } end", head + "begin release a; end",
		"width 4; " + head + "begin x = 16; end", head + "begin for i 3 2 { } end", "width 4; " + head + "begin for i 0 17 { } end",
		head + "begin for x 0 2 { } end", head + "begin for i 0 2 { for i 0 2 { } } end",
		head + "begin for i 0 65536 { } end", head + "begin for i 0 300 { for j 0 300 { x = j; } } end", "width 64; " + head + "begin for i 0 0xffffffffffffffff { } end",
	} {
		list = append(list, parsed(t, text))
	}
	seen := map[api.Errno]int{}
	for _, p := range list {
		want := wf.Check(p)
		f, e := Make(p)
		if e != want || e == api.OK || fmt.Sprint(f) != fmt.Sprint(api.Flat{}) {
			t.Fatalf("%v, %d, not %d, of %s", f, e, want, cut(shown(p)))
		}
		seen[e]++
	}
	is(t, "the errors of chapter 16", len(seen), 14)
}

// manyInputs: so many inputs of 256 words.
func manyInputs(n int) string {
	text := ""
	for i := range n {
		text += fmt.Sprintf("secret q%d[256]; ", i)
	}
	return text
}
