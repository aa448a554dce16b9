package flow

import (
	"fmt"
	"math"
	"strings"
	"testing"

	"cadence/api"
	"cadence/wf"
)

// wrongProgram: a program that is not right, by one clause of chapter 16.
type wrongProgram struct {
	what string
	p    api.Program
	code api.Errno
}

// wrongPrograms: each of them would have a high expression, were it right.
func wrongPrograms(t testing.TB) []wrongProgram {
	const head = "secret k; public n; const T[2] = 1, 2; out x; var a[2]; "
	const body = "begin x = T[k]; if k { } x = 1 / k; a[k] = 1; end"
	list := []wrongProgram{
		{"nothing", api.Program{}, api.ErrArg},
		{"a kind of statement", changed(t, head+body, func(p *api.Program) { p.Body[0].Kind = 6 }), api.ErrArg},
		{"no kind of statement", changed(t, head+body, func(p *api.Program) { p.Body[1].Kind = 0 }), api.ErrArg},
		{"a kind of expression", changed(t, head+body, func(p *api.Program) { p.Body[0].E.Kind = 27 }), api.ErrArg},
		{"no index", changed(t, head+body, func(p *api.Program) { p.Body[3].At = api.Expr{} }), api.ErrArg},
		{"a part too few", changed(t, head+body, func(p *api.Program) { p.Body[2].E.Kids = p.Body[2].E.Kids[:1] }), api.ErrArg},
		{"a part too many", changed(t, head+body, func(p *api.Program) { p.Body[2].E.Kids = append(p.Body[2].E.Kids, p.Body[2].E) }), api.ErrArg},
		{"a kind of declaration", changed(t, head+body, func(p *api.Program) { p.Decls[0].Kind = 0 }), api.ErrArg},
		{"a size below 0", changed(t, head+body, func(p *api.Program) { p.Decls[4].Size = -1 }), api.ErrArg},
		{"a width below 0", changed(t, head+body, func(p *api.Program) { p.Width = math.MinInt }), api.ErrArg},
		{"a line below 0", changed(t, head+body, func(p *api.Program) { p.Line = -2 }), api.ErrArg},
		{"many declarations", changed(t, head+body, manyDecls), api.ErrSize},
		{"table and values", changed(t, head+body, func(p *api.Program) { p.Decls[2].Values = append(p.Decls[2].Values, 1) }), api.ErrValues},
		{"deep blocks", parsed(t, head+"begin "+strings.Repeat("if k { ", 65)+strings.Repeat("} ", 65)+"end"), api.ErrDeep},
		{"far too deep", changed(t, head+body, farTooDeep), api.ErrDeep},
	}
	for _, r := range []struct {
		text string
		code api.Errno
	}{
		{"width 0; " + head + body, api.ErrWidth}, {"width 5; " + head + body, api.ErrWidth}, {"width 128; " + head + body, api.ErrWidth},
		{"line 0; " + head + body, api.ErrPower}, {"line 3; " + head + body, api.ErrPower}, {"line 512; " + head + body, api.ErrPower},
		{head + "secret k; " + body, api.ErrTwice}, {head + "var T; " + body, api.ErrTwice},
		{head + "secret l[3]; " + body, api.ErrPower}, {head + "secret l[512]; " + body, api.ErrPower}, {head + "secret l[0x7fffffffffffffff]; " + body, api.ErrPower},
		{head + "const U[4] = 1, 2; " + body, api.ErrValues},
		{"width 4; " + head + "const U[1] = 16; " + body, api.ErrRange},
		{strings.Join(arrays(17), "") + "begin if s0[0] { } end", api.ErrInputs},
		{head + "begin if " + strings.Repeat("~", 64) + "k { } end", api.ErrDeep},
		{head + "begin if k { x = y; } end", api.ErrUnknown}, {head + "begin y = 1 / k; end", api.ErrUnknown}, {head + "begin if k { release y; } end", api.ErrUnknown}, {head + "begin y[k] = 1; end", api.ErrUnknown}, {head + "begin for i 0 2 { } if k { x = i; } end", api.ErrUnknown}, {head + "begin if k { } for i 0 0 { x = y; } end", api.ErrUnknown},
		{head + "begin if k { x = a; } end", api.ErrKind}, {head + "begin x = n[k]; end", api.ErrKind}, {head + "begin T[k] = 1; end", api.ErrKind}, {head + "begin a = 1 / k; end", api.ErrKind}, {head + "begin if k { release T; } end", api.ErrKind}, {head + "begin for i 0 2 { i = 1 / k; } end", api.ErrKind},
		{"width 4; " + head + "begin if k { x = 16; } end", api.ErrRange},
		{head + "begin for i 3 2 { if k { } } end", api.ErrBounds}, {"width 4; " + head + "begin for i 0 17 { if k { } } end", api.ErrBounds},
		{head + "begin for x 0 2 { if k { } } end", api.ErrLoop}, {head + "begin for i 0 2 { for i 0 2 { if k { } } } end", api.ErrLoop},
		{head + "begin if k { } for i 0 65536 { } end", api.ErrUnrolled}, {head + "begin for i 0 300 { for j 0 300 { x = 1 / k; } } end", api.ErrUnrolled}, {"width 64; " + head + "begin for i 0 0xffffffffffffffff { for j 0 0xffffffffffffffff { x = 1 / k; } } end", api.ErrUnrolled},
	} {
		list = append(list, wrongProgram{r.text, parsed(t, r.text), r.code})
	}
	return list
}

// changed: the program of a text, with something turned.
func changed(t testing.TB, text string, turn func(p *api.Program)) api.Program {
	p := parsed(t, text)
	turn(&p)
	return p
}

func manyDecls(p *api.Program) {
	for i := range 252 {
		p.Decls = append(p.Decls, api.Decl{Kind: api.DSecret, Name: fmt.Sprint("d", i)})
	}
}

func farTooDeep(p *api.Program) {
	for range 60000 {
		p.Body[1].E = api.Expr{Kind: api.ENeg, Kids: []api.Expr{p.Body[1].E}}
	}
}

// arrays: so many inputs of 256 words.
func arrays(n int) []string {
	var list []string
	for i := range n {
		list = append(list, fmt.Sprintf("secret s%d[256]; ", i))
	}
	return list
}

// TestWrong: each call answers wf's error ahead of every other, and nothing beside it but Check's -1 (F18.1, F18.2).
func TestWrong(t *testing.T) {
	seen := map[api.Errno]int{}
	for _, w := range wrongPrograms(t) {
		is(t, w.what, wf.Check(w.p), w.code)
		seen[w.code]++
		place, e := Check(w.p)
		is(t, w.what, []any{place, e}, []any{-1, w.code})
		high, e := High(w.p)
		is(t, w.what, []any{len(high), e}, []any{0, w.code})
		ends, e := Ends(w.p)
		is(t, w.what, []any{len(ends), e}, []any{0, w.code})
		for _, at := range append(nowhere(), 0, 1, 4, 5, 6, 7, 8, 9, 1000) {
			list, e := Sources(w.p, at)
			is(t, w.what, []any{len(list), e}, []any{0, w.code})
		}
	}
	is(t, "the errors of chapter 16", len(seen), 14)
}

// TestNoExpression: places at which none stands (F18.2).
func TestNoExpression(t *testing.T) {
	p := parsed(t, "secret k; out x; var a[2]; begin x = 1; a[x] = k + 2; release x; if k { x = 3; } else { release x; } for i 0 2 { x = i; } for j 0 0 { x = k; } end")
	// 0 to 2 the declarations; 3 x = 1, 4 1; 5 the store, 6 x, 7 k + 2, 8 k, 9 2; 10 the release; 11 the if, 12 k, 13 x = 3, 14 3, 15 the release; 16 the for, 17 x = i, 18 i; 19 the for, 20 x = k, 21 k
	want := map[int]string{4: "-", 6: "-", 7: "k", 8: "k", 9: "-", 12: "k", 14: "-", 18: "-", 21: "-"}
	n := thingsOf(t, p)
	is(t, "places", n, 22)
	for place := range n {
		if sources, is := want[place]; is {
			if got := told(p, sourcesAt(t, p, place)); got != sources {
				t.Fatalf("sources at %d: %s, not %s", place, got, sources)
			}
		} else {
			noSources(t, p, place)
		}
	}
	for _, place := range append(nowhere(), n, n+1, n+1000) {
		noSources(t, p, place)
	}
	is(t, "its places as they are told", len(exprsOf(p)), len(want))
	empty := parsed(t, "begin end")
	for _, place := range append(nowhere(), 0, 1) {
		noSources(t, empty, place)
	}
	bare := parsed(t, "secret k; begin end")
	for _, place := range append(nowhere(), 0, 1) {
		noSources(t, bare, place)
	}
}

// TestRightEdges: what is just right is gone through.
func TestRightEdges(t *testing.T) {
	const head = "secret k; public n; const T[2] = 1, 2; out x; var a[2]; "
	highIs(t, head+"begin x = "+strings.Repeat("~", 63)+"k; end", "")
	highIs(t, head+"begin if "+strings.Repeat("~", 63)+"k { } end", strings.Repeat("~", 63)+"k")
	highIs(t, head+"begin "+strings.Repeat("if n { ", 63)+"x = k; if x { } "+strings.Repeat("} ", 63)+"if n { } end", "x")
	highIs(t, head+"begin for i 0 65533 { } if k { } end", "k")
	highIs(t, "line 256; "+head+"begin x = T[k]; end", "")
	highIs(t, "width 4; "+head+"begin for i 0 16 { x = 15 % k; } end", "k")
	highIs(t, "begin end", "")
	is(t, "no declaration", len(endsOf(t, parsed(t, "begin if 1 { } end"))), 0)
	p := parsed(t, strings.Join(arrays(16), "")+"begin if s15[0] { } end")
	is(t, "the most inputs", highOf(t, p), []int{17})
}
