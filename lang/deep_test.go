package lang

import (
	"strings"
	"testing"

	"cadence/api"
)

// nest: one of the ways in which something is open: its text ahead and behind, and its tree around another.
type nest struct {
	ahead, behind string
	around        func(e api.Expr) api.Expr
}

func nests() []nest {
	return []nest{
		{"~", "", func(e api.Expr) api.Expr { return of(api.ECom, e) }},
		{"-", "", func(e api.Expr) api.Expr { return of(api.ENeg, e) }},
		{"t[", "]", func(e api.Expr) api.Expr { return load("t", e) }},
		{"sar(", ", b)", func(e api.Expr) api.Expr { return of(api.ESar, e, name("b")) }},
		{"slt(b, ", ")", func(e api.Expr) api.Expr { return of(api.ESlt, name("b"), e) }},
		{"sel(b, c, ", ")", func(e api.Expr) api.Expr { return of(api.ESel, name("b"), name("c"), e) }},
		{"b * (c | ", ")", func(e api.Expr) api.Expr { return of(api.EMul, name("b"), of(api.EOr, name("c"), e)) }},
	}
}

// TestDeepExprs: 256 are open within one another, in a text and in a tree, and not one more (P1501, P1503).
func TestDeepExprs(t *testing.T) {
	for _, n := range nests() {
		for _, depth := range []int{255, 256} {
			e := name("a")
			for range depth {
				e = n.around(e)
			}
			body := "x = " + strings.Repeat(n.ahead, depth) + "a" + strings.Repeat(n.behind, depth) + ";"
			p := parsed(t, inBody(body))
			if !sameProgram(p, holding(set("x", e))) {
				t.Fatalf("%s: another tree", n.ahead)
			}
			is(t, "its text", printed(t, p), "program p;\nbegin\n  "+body+"\nend\n")
		}
		deeper := strings.Repeat(n.ahead, 256) + "\n" + n.ahead + "a" + strings.Repeat(n.behind, 257)
		refused(t, inBody("x = "+deeper+";"), 2, api.ErrDeep)
		refused(t, inBody("x = "+strings.Repeat(n.ahead, 257)), 1, api.ErrDeep)
		refused(t, inBody("x = "+strings.Repeat(n.ahead, 10000)+"\n"), 1, api.ErrDeep)
		e := name("a")
		for range 257 {
			e = n.around(e)
		}
		p := holding(set("x", e))
		is(t, "form", Form(p), true)
		unprinted(t, n.ahead, p, api.ErrArg)
		text, err := Expr(e)
		is(t, n.ahead, []any{text, err}, []any{strings.Repeat(n.ahead, 257) + "a" + strings.Repeat(n.behind, 257), api.OK})
	}
}

// blocksAround: a statement within so many blocks.
func blocksAround(s api.Stmt, depth int) api.Stmt {
	for i := range depth {
		switch i % 3 {
		case 0:
			s = branch(num(1), []api.Stmt{s}, nil)
		case 1:
			s = loop("i", 0, 1, s)
		case 2:
			s = branch(num(1), nil, []api.Stmt{s})
		}
	}
	return s
}

// TestDeepStmts: blocks within one another, with expressions in the innermost (P1501, P1503).
func TestDeepStmts(t *testing.T) {
	inner := []struct {
		s     api.Stmt
		opens int
	}{
		{release("x"), 0}, {set("x", num(1)), 0}, {set("x", of(api.ESub, name("a"), name("b"))), 0}, {set("x", of(api.ENeg, name("a"))), 1}, {store("x", num(0), num(1)), 1}, {store("x", of(api.ECom, num(0)), num(1)), 2},
		{store("x", num(0), of(api.ECom, num(1))), 1}, {branch(num(1), nil, nil), 1}, {loop("i", 0, 1), 1}, {branch(of(api.ENeg, load("t", num(1))), nil, nil), 2},
		{set("x", of(api.EMul, of(api.EAdd, name("a"), name("b")), of(api.EAdd, name("a"), of(api.ECom, name("b"))))), 2}, {set("x", of(api.EAdd, of(api.ECom, name("a")), of(api.ECom, name("b")))), 1},
	}
	for _, r := range inner {
		depth := 256 - r.opens
		p := holding(blocksAround(r.s, depth), set("y", of(api.ECom, num(1))), r.s)
		text := printed(t, p)
		if !sameProgram(parsed(t, text), p) {
			t.Fatalf("another tree of %s", shown(text))
		}
		deeper := holding(blocksAround(r.s, depth+1))
		is(t, "form", Form(deeper), true)
		if r.opens == 0 {
			unprinted(t, "blocks", deeper, api.ErrArg)
		}
		unprinted(t, "deeper", holding(set("y", num(1)), blocksAround(r.s, depth+1)), api.ErrArg)
	}
}

// TestDeepTexts: where something begins and ends to be open (P1501).
func TestDeepTexts(t *testing.T) {
	open := strings.Repeat("if 1 {", 256)
	closed := strings.Repeat("}", 256)
	for _, fine := range []string{"", "x = 1;", "x = a - b;", "release x;", "x = a; x = b + 1 == c;"} {
		parsed(t, inBody(open+fine+closed))
		parsed(t, inBody(open+fine+closed+open+fine+closed))
	}
	for _, deep := range []string{"x = a +\n(b);", "x = \n(b);", "x = \n-b;", "x = a -\n-b;", "x\n[1] = 2;", "x = a\n[1];", "x = sar\n(1, 2);", "if 1\n{ }", "for i 0 1\n{ }", "if\n~1 { }", "if a\n[1] { }"} {
		refused(t, inBody(open+deep+closed), 2, api.ErrDeep)
		less := strings.Replace(open, "if 1 {", "", 1)
		parsed(t, inBody(less+deep+closed[1:]))
	}
	for _, wrong := range []string{"\n(", "\n[", "\n{", "\n-", "\n~", "x\n(", "x\n{", "x = a\n(", "x = a\n{", "x = a\n~", "x = 1\n[", "x = -\n)", "if 1 \n;", "release\n(", "for i\n(", "for i 0 1\n(", "x =\n["} {
		if strings.HasPrefix(wrong, "x = -") {
			refused(t, inBody(open+wrong+closed), 1, api.ErrDeep)
			continue
		}
		refused(t, inBody(open+wrong+closed), 2, api.ErrSyntax)
	}
	unary := strings.Repeat("~", 256)
	for _, fine := range []string{"a", "1", "a + (b)", "a * -b", "a - " + unary + "b", "a == t[~1]", "a << sel(1, 2, -3)"} {
		parsed(t, inBody("x = "+unary+fine+"; y[~1] = -2;"))
	}
	for _, deep := range []string{"\n~a", "\n-a", "\n(a)", "a\n[1]", "sar\n(1, 2)", "sel\n(1, 2, 3)"} {
		refused(t, inBody("x = "+unary+deep+";"), 2, api.ErrDeep)
		parsed(t, inBody("x = "+unary[1:]+deep+";"))
	}
	for _, half := range []string{strings.Repeat("(~", 128), strings.Repeat("-(", 128), strings.Repeat("t[~", 128), strings.Repeat("sar(-", 128)} {
		refused(t, inBody("x = "+half+"\n(a"), 2, api.ErrDeep)
		refused(t, inBody("x = "+half+"a\n{"), 2, api.ErrSyntax)
	}
}

// TestFirstFault: of two faults the one of the earlier token is told; a thing that is no token ahead of both (P1501).
func TestFirstFault(t *testing.T) {
	deep := "x =\n" + strings.Repeat("(", 257) + "a" + strings.Repeat(")", 257) + ";\n"
	wrong := "y =\n;\n"
	refused(t, inBody(deep+wrong), 2, api.ErrDeep)
	refused(t, inBody(wrong+deep), 2, api.ErrSyntax)
	refused(t, inBody(deep+wrong+"$"), 5, api.ErrToken)
	refused(t, inBody(wrong+deep+"abcdefghijklmnopqrstuvwxy"), 5, api.ErrToken)
	refused(t, "program p;\nwidth 8;\nwidth 8;\nvar a[0];\nbegin "+deep+" end", 3, api.ErrSyntax)
	refused(t, "program p;\nvar a[0];\nbegin "+deep+" end", 2, api.ErrSyntax)
}

// TestVeryDeepTrees: trees far deeper than any program are told of in full (P1502, P1503, P1504, P1).
func TestVeryDeepTrees(t *testing.T) {
	const depth = 60000
	for _, n := range nests() {
		e := name("a")
		for range depth {
			e = n.around(e)
		}
		p := holding(set("x", e))
		is(t, "form", Form(p), true)
		unprinted(t, n.ahead, p, api.ErrArg)
		text, err := Expr(e)
		if err != api.OK || text != strings.Repeat(n.ahead, depth)+"a"+strings.Repeat(n.behind, depth) {
			t.Fatalf("%s: %s %d", n.ahead, shown(text), err)
		}
		bad := name("if")
		for range depth {
			bad = n.around(bad)
		}
		is(t, "form of a bad one", Form(holding(set("x", bad))), false)
		text, err = Expr(bad)
		is(t, "text of a bad one", []any{text, err}, []any{"", api.ErrArg})
	}
	p := holding(blocksAround(release("x"), depth))
	is(t, "form of blocks", Form(p), true)
	unprinted(t, "blocks", p, api.ErrArg)
	is(t, "form of bad blocks", Form(holding(blocksAround(release("if"), depth))), false)
}
