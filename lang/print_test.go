package lang

import (
	"strings"
	"testing"

	"cadence/api"
)

// TestPrintRows: texts by hand (P1503).
func TestPrintRows(t *testing.T) {
	x := set("x", num(1))
	rows := []struct {
		p    api.Program
		text string
	}{
		{holding(), "program p;\nbegin\nend\n"},
		{api.Program{Name: "q"}, "program q;\nwidth 0;\nline 0;\nbegin\nend\n"},
		{api.Program{Name: "q", Width: 64, Line: 1}, "program q;\nwidth 64;\nbegin\nend\n"},
		{api.Program{Name: "q", Width: 32, Line: 32}, "program q;\nline 32;\nbegin\nend\n"},
		{api.Program{Name: "q", Width: 1, Line: 1000}, "program q;\nwidth 1;\nline 0x3e8;\nbegin\nend\n"},
		{api.Program{Name: "q", Width: 1<<63 - 1, Line: 1}, "program q;\nwidth 0x7fffffffffffffff;\nbegin\nend\n"},
		{api.Program{Name: "q", Width: 32, Line: 1, Decls: []api.Decl{{Kind: 1, Name: "a"}, {Kind: 2, Name: "b", Size: 1}, {Kind: 3, Name: "c", Size: 4, Values: []uint64{7}}, {Kind: 4, Name: "d", Size: 1<<63 - 1}, {Kind: 5, Name: "e", Size: 16}, {Kind: 3, Name: "f", Size: 2, Values: []uint64{0, 1000, 1<<64 - 1}}}},
			"program q;\npublic a;\nsecret b[1];\nconst c[4] = 7;\nvar d[0x7fffffffffffffff];\nout e[16];\nconst f[2] = 0, 0x3e8, 0xffffffffffffffff;\nbegin\nend\n"},
		{holding(x, store("y", of(api.EAdd, name("i"), num(1)), of(api.ELt, name("a"), name("b"))), release("z")), "program p;\nbegin\n  x = 1;\n  y[i + 1] = a < b;\n  release z;\nend\n"},
		{holding(branch(of(api.EEq, name("a"), num(0)), []api.Stmt{x, x}, nil)), "program p;\nbegin\n  if a == 0 {\n    x = 1;\n    x = 1;\n  }\nend\n"},
		{holding(branch(name("a"), []api.Stmt{x}, []api.Stmt{release("x")})), "program p;\nbegin\n  if a {\n    x = 1;\n  } else {\n    release x;\n  }\nend\n"},
		{holding(branch(name("a"), nil, []api.Stmt{x})), "program p;\nbegin\n  if a {\n  } else {\n    x = 1;\n  }\nend\n"},
		{holding(branch(name("a"), []api.Stmt{}, []api.Stmt{}), x), "program p;\nbegin\n  if a {\n  }\n  x = 1;\nend\n"},
		{holding(loop("i", 0, 1000), loop("j", 5, 4, x)), "program p;\nbegin\n  for i 0 0x3e8 {\n  }\n  for j 5 4 {\n    x = 1;\n  }\nend\n"},
		{holding(loop("i", 0, 2, branch(name("i"), []api.Stmt{loop("j", 1<<64-1, 0, x)}, []api.Stmt{branch(name("j"), nil, nil), x})), x),
			"program p;\nbegin\n  for i 0 2 {\n    if i {\n      for j 0xffffffffffffffff 0 {\n        x = 1;\n      }\n    } else {\n      if j {\n      }\n      x = 1;\n    }\n  }\n  x = 1;\nend\n"},
	}
	for _, r := range rows {
		is(t, "the text", printed(t, r.p), r.text)
		is(t, "by a plain reading", plainText(r.p), r.text)
		if !sameProgram(parsed(t, r.text), r.p) {
			t.Errorf("%s is read as another tree", r.text)
		}
	}
}

// ofLength: a program whose text has so many bytes, by statements of 9 to 32 bytes.
func ofLength(n int) api.Program {
	p := holding()
	n -= len("program p;\nbegin\nend\n")
	for n > 0 {
		size := 32
		if n < 32+9 {
			size = min(n, 20)
		}
		if n-size > 0 && n-size < 9 {
			size = n - 9
		}
		p.Body = append(p.Body, set(strings.Repeat("x", size-8), num(1)))
		n -= size
	}
	return p
}

// TestPrintSize: a text of MaxText bytes is told, none of more (P1503).
func TestPrintSize(t *testing.T) {
	for _, n := range []int{100, 1000, api.MaxText - 1, api.MaxText} {
		p := ofLength(n)
		text := printed(t, p)
		is(t, "its length", len(text), n)
		if !sameProgram(parsed(t, text), p) {
			t.Fatal("another tree")
		}
	}
	for _, n := range []int{api.MaxText + 1, api.MaxText + 2, api.MaxText + 4, api.MaxText + 5, api.MaxText + 33, 2 * api.MaxText, 5 * api.MaxText} {
		p := ofLength(n)
		unprinted(t, "too long", p, api.ErrSize)
		is(t, "form", Form(p), true)
	}
	longTable := func(n int) api.Program {
		return api.Program{Name: "p", Width: 32, Line: 1, Decls: []api.Decl{{Kind: api.DConst, Name: "t", Size: 1, Values: make([]uint64, n)}}}
	}
	n := (api.MaxText - len("program p;\nconst t[1] = ;\nbegin\nend\n") + 2) / 3
	is(t, "a table", len(printed(t, longTable(n))) <= api.MaxText, true)
	unprinted(t, "a long table", longTable(n+1), api.ErrSize)
	e := name("a")
	count := (api.MaxText - len("program p;\nbegin\n  x = a;\nend\n")) / 4
	for range count {
		e = of(api.ESub, e, name("a"))
	}
	p := holding(set("x", e))
	if !sameProgram(parsed(t, printed(t, p)), p) {
		t.Fatal("a long chain is read as another tree")
	}
	unprinted(t, "a longer chain", holding(set("x", of(api.ESub, e, name("a")))), api.ErrSize)
}

// TestPrintErrors: ErrArg ahead of ErrSize, wherever the fault is (P1503).
func TestPrintErrors(t *testing.T) {
	long := ofLength(2 * api.MaxText)
	unprinted(t, "long", long, api.ErrSize)
	for i, bad := range []api.Stmt{
		blocksAround(release("x"), 257), set("x", nests()[0].around(wrapped(256))), store("x", wrapped(256), num(1)), branch(wrapped(257), nil, nil), blocksAround(set("x", wrapped(1)), 256),
		release("if"), set("x", api.Expr{}), {}, branch(num(1), nil, []api.Stmt{{}}), store("x", num(1), of(api.EAdd, num(1))),
	} {
		is(t, "form", Form(holding(bad)), i < 5)
		p := long
		p.Body = append(append([]api.Stmt{}, long.Body...), bad)
		unprinted(t, "behind", p, api.ErrArg)
		p.Body = append([]api.Stmt{bad}, long.Body...)
		unprinted(t, "ahead", p, api.ErrArg)
		unprinted(t, "alone", holding(bad), api.ErrArg)
	}
	p := long
	p.Name = "end"
	unprinted(t, "the name", p, api.ErrArg)
	p = long
	p.Width = -1
	unprinted(t, "the width", p, api.ErrArg)
}

// wrapped: an expression in which so many are open.
func wrapped(depth int) api.Expr {
	e := name("a")
	for i := range depth {
		e = nests()[i%len(nests())].around(e)
	}
	return e
}
