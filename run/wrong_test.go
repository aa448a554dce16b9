package run

import (
	"fmt"
	"math"
	"strings"
	"testing"

	"cadence/api"
	"cadence/wf"
)

// wrongProgram: a program that is not right, by one clause of chapter 16.
type wrongProgram struct {
	what string
	p    api.Program
	code api.Errno
}

func wrongPrograms(t testing.TB) []wrongProgram {
	const head = "secret k; public n; const T[2] = 1, 2; out x; var a[2]; "
	list := []wrongProgram{
		{"nothing", api.Program{}, api.ErrArg},
		{"a kind of statement", changed(t, head+"begin x = 1; end", func(p *api.Program) { p.Body[0].Kind = 6 }), api.ErrArg},
		{"a kind of expression", changed(t, head+"begin x = 1; end", func(p *api.Program) { p.Body[0].E.Kind = 27 }), api.ErrArg},
		{"a part too few", changed(t, head+"begin x = 1 + k; end", func(p *api.Program) { p.Body[0].E.Kids = p.Body[0].E.Kids[:1] }), api.ErrArg},
		{"a part too many", changed(t, head+"begin x = 1 + k; end", func(p *api.Program) { p.Body[0].E.Kids = append(p.Body[0].E.Kids, p.Body[0].E) }), api.ErrArg},
		{"a kind of declaration", changed(t, head+"begin end", func(p *api.Program) { p.Decls[0].Kind = 0 }), api.ErrArg},
		{"a size below 0", changed(t, head+"begin end", func(p *api.Program) { p.Decls[0].Size = -1 }), api.ErrArg},
		{"a width below 0", changed(t, head+"begin end", func(p *api.Program) { p.Width = math.MinInt }), api.ErrArg},
		{"many declarations", changed(t, head+"begin end", manyDecls), api.ErrSize},
		{"table and values", changed(t, head+"begin end", func(p *api.Program) { p.Decls[2].Values = append(p.Decls[2].Values, 1) }), api.ErrValues},
		{"deep blocks", parsed(t, head+"begin "+strings.Repeat("if k { ", 65)+strings.Repeat("} ", 65)+"end"), api.ErrDeep},
		{"far too deep", changed(t, head+"begin x = k; end", farTooDeep), api.ErrDeep},
	}
	for _, r := range []struct {
		text string
		code api.Errno
	}{
		{"width 0; " + head + "begin end", api.ErrWidth}, {"width 5; " + head + "begin end", api.ErrWidth}, {"width 128; " + head + "begin end", api.ErrWidth},
		{"line 0; " + head + "begin end", api.ErrPower}, {"line 3; " + head + "begin x = T[k]; end", api.ErrPower}, {"line 512; " + head + "begin end", api.ErrPower},
		{head + "secret k; begin end", api.ErrTwice}, {head + "var T; begin end", api.ErrTwice},
		{head + "secret l[3]; begin end", api.ErrPower}, {head + "secret l[512]; begin end", api.ErrPower}, {head + "secret l[0x7fffffffffffffff]; begin end", api.ErrPower},
		{head + "const U[4] = 1, 2; begin end", api.ErrValues},
		{"width 4; " + head + "const U[1] = 16; begin end", api.ErrRange},
		{strings.Join(arrays(17), "") + "begin end", api.ErrInputs},
		{head + "begin x = " + strings.Repeat("~", 64) + "k; end", api.ErrDeep},
		{head + "begin x = y; end", api.ErrUnknown}, {head + "begin y = x; end", api.ErrUnknown}, {head + "begin release y; end", api.ErrUnknown}, {head + "begin y[0] = 1; end", api.ErrUnknown}, {head + "begin for i 0 2 { } x = i; end", api.ErrUnknown},
		{head + "begin x = a; end", api.ErrKind}, {head + "begin x = k[0]; end", api.ErrKind}, {head + "begin T[0] = 1; end", api.ErrKind}, {head + "begin a = 1; end", api.ErrKind}, {head + "begin release T; end", api.ErrKind}, {head + "begin for i 0 2 { i = 1; } end", api.ErrKind},
		{"width 4; " + head + "begin x = 16; end", api.ErrRange},
		{head + "begin for i 3 2 { } end", api.ErrBounds}, {"width 4; " + head + "begin for i 0 17 { } end", api.ErrBounds},
		{head + "begin for x 0 2 { } end", api.ErrLoop}, {head + "begin for i 0 2 { for i 0 2 { } } end", api.ErrLoop},
		{head + "begin for i 0 65536 { } end", api.ErrUnrolled}, {head + "begin for i 0 300 { for j 0 300 { x = j; } } end", api.ErrUnrolled}, {"width 64; " + head + "begin for i 0 0xffffffffffffffff { for j 0 0xffffffffffffffff { } } end", api.ErrUnrolled},
	} {
		list = append(list, wrongProgram{r.text, parsed(t, r.text), r.code})
	}
	return list
}

// changed: the program of a text, with something turned.
func changed(t testing.TB, text string, turn func(p *api.Program)) api.Program {
	p := parsed(t, text)
	turn(&p)
	return p
}

func manyDecls(p *api.Program) {
	for i := range 252 {
		p.Decls = append(p.Decls, api.Decl{Kind: api.DVar, Name: fmt.Sprint("d", i)})
	}
}

func farTooDeep(p *api.Program) {
	for range 60000 {
		p.Body[0].E = api.Expr{Kind: api.ENeg, Kids: []api.Expr{p.Body[0].E}}
	}
}

// arrays: so many inputs of 256 words.
func arrays(n int) []string {
	var list []string
	for i := range n {
		list = append(list, fmt.Sprintf("secret s%d[256]; ", i))
	}
	return list
}

// TestWrong: each call that takes a program answers wf's error ahead of every other, and nothing beside it (P1701 to P1703, P1705).
func TestWrong(t *testing.T) {
	seen := map[api.Errno]int{}
	for _, w := range wrongPrograms(t) {
		is(t, w.what, wf.Check(w.p), w.code)
		seen[w.code]++
		n, e := Length(w.p)
		is(t, w.what, []any{n, e}, []any{0, w.code})
		public, e := Public(w.p)
		is(t, w.what, []any{len(public), e}, []any{0, w.code})
		for _, in := range [][]uint64{nil, {1}, {1, 2}, {3, 2}, {1, 4}, {1, 2, 3}, make([]uint64, 5000)} {
			runFails(t, w.p, in, w.code)
			leakFails(t, w.p, in, in, w.code)
			leakFails(t, w.p, in, words(1, 2), w.code)
			leakFails(t, w.p, in, nil, w.code)
		}
		for _, state := range [][][]uint64{nil, {{1}}, {{1}, {2}, {3}, {4, 5}}, {{1, 2}, nil}} {
			out, e := Outputs(w.p, api.Ended{State: state})
			is(t, w.what, []any{len(out), e}, []any{0, w.code})
		}
	}
	is(t, "the errors of chapter 16", len(seen), 14)
}

// TestRightEdges: what is just right is run (P1702).
func TestRightEdges(t *testing.T) {
	const head = "secret k; public n; const T[2] = 1, 2; out x; var a[2]; "
	for _, text := range []string{
		head + "begin x = " + strings.Repeat("~", 63) + "k; end",
		head + "begin " + strings.Repeat("if k { ", 64) + strings.Repeat("} ", 64) + "end",
		"width 4; " + head + "begin for i 0 16 { x = 15; } end",
		head + "begin for i 0 65535 { } end",
		"line 256; " + head + "begin x = T[k]; end",
	} {
		endOf(t, parsed(t, text), words(1, 2))
	}
	p := parsed(t, strings.Join(arrays(16), "")+"begin end")
	is(t, "the most inputs", lengthOf(t, p), 4096)
	endOf(t, p, make([]uint64, 4096))
	runFails(t, p, make([]uint64, 4095), api.ErrLength)
	runFails(t, p, make([]uint64, 4097), api.ErrLength)
}
