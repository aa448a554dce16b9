package check

import (
	"fmt"
	"slices"
	"strings"
	"testing"

	"cadence/api"
	"cadence/lang"
	"cadence/wf"
)

// manyBudgets: what is refused is refused with each.
func manyBudgets() []api.Budget {
	return []api.Budget{noBound(), budget(0, 0, 0, 0), bounded(api.CPaths, 0), bounded(api.CTerms, 1), budget(-1<<63, 1<<63-1, 0, -1)}
}

// refusedText: a text is refused with a Code, whatever the budget is, and with nothing else (F24.1, P2403).
func refusedText(t testing.TB, s string, code api.Errno) {
	t.Helper()
	for _, b := range manyBudgets() {
		is(t, s, Check(s, b), api.Verdict{Kind: api.Reject, Code: code})
		is(t, s, Run(s, b, nil), api.Verdict{Kind: api.Reject, Code: code})
	}
	is(t, "it holds: "+s, Hold(s, Check(s, noBound())), true)
}

// refusedTree: likewise a tree.
func refusedTree(t testing.TB, p api.Program, code api.Errno) {
	t.Helper()
	for _, b := range manyBudgets() {
		is(t, shown(p), Program(p, b), api.Verdict{Kind: api.Reject, Code: code})
		l, v := Queries(p, b)
		is(t, shown(p), []any{len(l), v}, []any{0, api.Verdict{Kind: api.Reject, Code: code}})
	}
}

// TestRefusedTexts: by the grammar, with its errors (F24.1).
func TestRefusedTexts(t *testing.T) {
	for s, code := range map[string]api.Errno{
		"": api.ErrSyntax, "program": api.ErrSyntax, "program p; begin": api.ErrSyntax, "program p; begin end end": api.ErrSyntax, "program p; width 4; width 4; begin end": api.ErrSyntax,
		"program p; begin $ end": api.ErrToken, "program p; begin x = 0x; end": api.ErrToken, "\xff": api.ErrToken, "program p; begin end \x00": api.ErrToken,
		"program p; begin x = " + strings.Repeat("(", 300) + "1" + strings.Repeat(")", 300) + "; end": api.ErrDeep,
		"program p; begin end" + strings.Repeat(" ", api.MaxText):                                     api.ErrSize,
		// the first that refuses is told: a token ahead of all else, the grammar ahead of the clauses
		"program p; width 5; begin x = y; $": api.ErrToken, "program p; width 5; begin x = y": api.ErrSyntax,
	} {
		refusedText(t, s, code)
	}
	s := "program p; begin end"
	s += strings.Repeat(" ", api.MaxText-len(s)) // just as long as may be
	is(t, "a long text", told(Check(s, noBound())), "Secure which 0 at 0 code 0 used {1 0 0 0}")
}

// TestRefusedPrograms: by the clauses of right programs alone, with the error of the first that does; by text, and as a tree (F24.1).
func TestRefusedPrograms(t *testing.T) {
	names := ""
	for i := range 257 {
		names += fmt.Sprintf("var v%d; ", i)
	}
	for s, code := range map[string]api.Errno{
		"width 5; begin end": api.ErrWidth, "line 3; begin end": api.ErrPower, "line 512; begin end": api.ErrPower, names + "begin end": api.ErrSize,
		"secret k; out k; begin end": api.ErrTwice, "out x[3]; begin end": api.ErrPower, "const T[2] = 1; begin end": api.ErrValues, "width 4; const T[2] = 1, 16; begin end": api.ErrRange,
		inputs(17) + "begin end":                                 api.ErrInputs,
		"out x; begin x = " + strings.Repeat("~", 64) + "1; end": api.ErrDeep, "out x; begin x = y; end": api.ErrUnknown, "out x; var a[2]; begin x = a; end": api.ErrKind,
		"width 4; out x; begin x = 16; end": api.ErrRange, "out x; begin for i 3 2 { } end": api.ErrBounds, "out x; begin for x 0 2 { } end": api.ErrLoop,
		"out x; begin for i 0 300 { for j 0 300 { x = j; } } end": api.ErrUnrolled,
		// the first clause that is violated is told
		"width 5; out x; out x; begin x = y; end": api.ErrWidth, "out x; var a[2]; begin x = a; x = y; end": api.ErrUnknown,
		// and that it has a leak is not
		"secret k; out x; begin if k { } x = y; end": api.ErrUnknown,
	} {
		refusedText(t, text(s), code)
		p := parsed(t, s)
		is(t, s, wf.Check(p), code)
		refusedTree(t, p, code)
	}
}

// inputs: so many arrays of 256 secret words.
func inputs(n int) string {
	s := ""
	for i := range n {
		s += "secret b" + strings.Repeat("z", i) + "[256]; "
	}
	return s
}

// TestRefusedTrees: that no text has (F24.1).
func TestRefusedTrees(t *testing.T) {
	right := func() api.Program {
		p, _, _ := lang.Parse(text("width 8; secret k; out x; begin x = k + 1; end"))
		return p
	}
	is(t, "a right one", kindWord(Program(right(), noBound()).Kind), "Secure")
	for _, turn := range []func(*api.Program){
		func(p *api.Program) { *p = api.Program{} },
		func(p *api.Program) { p.Name = "" },
		func(p *api.Program) { p.Name = "if" },
		func(p *api.Program) { p.Width = -8 },
		func(p *api.Program) { p.Decls[0].Kind = 6 },
		func(p *api.Program) { p.Decls[0].Size = -1 },
		func(p *api.Program) { p.Decls[0].Values = []uint64{1} },
		func(p *api.Program) { p.Body[0].Kind = 0 },
		func(p *api.Program) { p.Body[0].Kind = 99 },
		func(p *api.Program) { p.Body[0].E.Kids = nil },
		func(p *api.Program) { p.Body[0].E.Kids = append(p.Body[0].E.Kids, p.Body[0].E) },
		func(p *api.Program) { p.Body[0].E.Kind = 27 },
		func(p *api.Program) { p.Body[0].E.Num = 1 },
		func(p *api.Program) { p.Body[0].Then = slices.Clone(p.Body) },
		func(p *api.Program) { p.Body[0].Lo = 1 },
	} {
		p := right()
		turn(&p)
		refusedTree(t, p, api.ErrArg)
	}
	for code, turn := range map[api.Errno]func(*api.Program){
		api.ErrWidth: func(p *api.Program) { p.Width = 0 },
		api.ErrPower: func(p *api.Program) { p.Line = 0 },
		api.ErrRange: func(p *api.Program) { p.Body[0].E.Kids[1].Num = 256 },
	} {
		p := right()
		turn(&p)
		refusedTree(t, p, code)
	}
}

// TestOneOfFive: of texts of any kind, one of four Kinds, and Reject just where lang or wf refuses, with its Code (P2403).
func TestOneOfFive(t *testing.T) {
	k := picker(2403)
	kinds := map[int]int{}
	for range 600 {
		m := maker{picker: &k, small: k.below(2) == 0, wild: true}
		s := text(m.program())
		for range k.below(3) { // some bytes are lost, or stand elsewhere
			at := k.below(len(s) - 4)
			s = pick(&k, s[:at]+s[at+1+k.below(3):], s[:at]+pick(&k, "k", "$", ";", "}", "9")+s[at:], strings.Replace(s, "k", "q", 1), strings.Replace(s, "4", "5", 1))
		}
		p, _, code := lang.Parse(s)
		if code == api.OK {
			code = wf.Check(p)
		}
		v := Check(s, anyBudget(&k, fair()))
		kinds[v.Kind]++
		if code != api.OK {
			is(t, s, v, api.Verdict{Kind: api.Reject, Code: code})
		} else if v.Kind != api.Secure && v.Kind != api.Leak && v.Kind != api.Unknown {
			t.Fatalf("%s, of %s", told(v), s)
		}
		is(t, "it holds: "+s, Hold(s, v), true)
	}
	for kind := api.Secure; kind <= api.Unknown; kind++ {
		if kinds[kind] < 40 {
			t.Fatal("too few: ", kinds)
		}
	}
}
