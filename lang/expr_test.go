package lang

import (
	"strings"
	"testing"

	"cadence/api"
)

// told: the text of an expression that may not be refused.
func told(t testing.TB, e api.Expr) string {
	t.Helper()
	s, err := Expr(e)
	if err != api.OK {
		t.Fatalf("no text: %d, of %+v", err, e)
	}
	return s
}

// TestExprRows: the chapter's examples, and more (P1504).
func TestExprRows(t *testing.T) {
	a, b, c, d := name("a"), name("b"), name("c"), name("d")
	rows := []struct {
		e    api.Expr
		text string
	}{
		{of(api.EMul, of(api.EAdd, a, b), c), "(a + b) * c"},
		{of(api.ESub, a, of(api.ESub, b, c)), "a - (b - c)"},
		{of(api.ESub, of(api.ESub, a, b), c), "a - b - c"},
		{of(api.ENeg, of(api.EMul, a, b)), "-(a * b)"},
		{of(api.EEq, of(api.ELt, a, b), c), "a < b == c"},
		{of(api.ECom, of(api.ENeg, a)), "~-a"},
		{of(api.ENeg, of(api.ENeg, num(1))), "--1"},
		{of(api.ESub, a, of(api.ENeg, b)), "a - -b"},
		{of(api.ESub, of(api.ENeg, a), b), "-a - b"},
		{of(api.EEq, a, of(api.ELt, b, c)), "a == (b < c)"},
		{of(api.ELe, of(api.EOr, a, b), of(api.EOr, c, d)), "a | b <= c | d"},
		{of(api.EOr, of(api.ENe, a, b), of(api.EGe, c, d)), "(a != b) | (c >= d)"},
		{of(api.EOr, of(api.EOr, a, b), of(api.EOr, c, d)), "a | b | (c | d)"},
		{of(api.EXor, of(api.EOr, a, b), of(api.EAnd, c, d)), "(a | b) ^ c & d"},
		{of(api.EAnd, of(api.EXor, a, b), of(api.EShl, c, d)), "(a ^ b) & c << d"},
		{of(api.EShr, of(api.EAnd, a, b), of(api.EAdd, c, d)), "(a & b) >> c + d"},
		{of(api.ERol, of(api.ERor, a, b), of(api.ERol, c, d)), "a >>> b <<< (c <<< d)"},
		{of(api.EAdd, of(api.EShl, a, b), of(api.EMul, c, d)), "(a << b) + c * d"},
		{of(api.EAdd, a, of(api.EAdd, b, c)), "a + (b + c)"},
		{of(api.EDiv, of(api.ERem, a, b), of(api.EMul, c, d)), "a % b / (c * d)"},
		{of(api.EMul, of(api.ECom, a), of(api.ENeg, b)), "~a * -b"},
		{of(api.ECom, of(api.EAdd, a, b)), "~(a + b)"},
		{of(api.ECom, load("t", of(api.EEq, a, b))), "~t[a == b]"},
		{load("t", load("u", num(0))), "t[u[0]]"},
		{load("t", of(api.EGt, a, b)), "t[a > b]"},
		{of(api.ESar, of(api.EEq, a, b), of(api.ENeg, c)), "sar(a == b, -c)"},
		{of(api.ESlt, num(999), num(1000)), "slt(999, 0x3e8)"},
		{of(api.ESel, of(api.ELt, a, b), of(api.EOr, a, b), of(api.ESel, a, b, c)), "sel(a < b, a | b, sel(a, b, c))"},
		{of(api.ENeg, of(api.ESar, a, b)), "-sar(a, b)"},
		{of(api.EMul, of(api.ESlt, a, b), of(api.ESel, a, b, c)), "slt(a, b) * sel(a, b, c)"},
		{num(0), "0"}, {num(1<<64 - 1), "0xffffffffffffffff"}, {num(1000), "0x3e8"}, {num(999), "999"}, {a, "a"},
	}
	for _, r := range rows {
		is(t, r.text, told(t, r.e), r.text)
		if !sameExpr(exprOf(t, r.text), r.e) {
			t.Errorf("%s is read as another tree", r.text)
		}
	}
}

// sampleOf: an expression of a kind, whose parts are names.
func sampleOf(kind int) api.Expr {
	e := api.Expr{Kind: kind}
	switch kind {
	case api.ENum:
		e.Num = 7
	case api.EName, api.ELoad:
		e.Name = "v"
	}
	for i := range kidsOf(kind) {
		e.Kids = append(e.Kids, name([]string{"a", "b", "c"}[i]))
	}
	return e
}

// TestExprPlaces: each kind in each place of each other has brackets just where the place does not take its rule (P1504).
func TestExprPlaces(t *testing.T) {
	for outer := api.ELoad; outer <= api.ELast; outer++ {
		for place := range kidsOf(outer) {
			for inner := api.ENum; inner <= api.ELast; inner++ {
				e := sampleOf(outer)
				e.Kids[place] = sampleOf(inner)
				bare := told(t, sampleOf(inner))
				binary := outer >= api.EMul && outer <= api.EGe
				needed := binary && place == 0 && ruleOf(inner) < ruleOf(outer) || binary && place == 1 && ruleOf(inner) <= ruleOf(outer) ||
					ruleOf(outer) == 7 && ruleOf(inner) < 7
				marked := sampleOf(outer)
				marked.Kids[place] = name("HERE")
				want := strings.Replace(told(t, marked), "HERE", bare, 1)
				if needed {
					want = strings.Replace(told(t, marked), "HERE", "("+bare+")", 1)
				}
				is(t, "a part", told(t, e), want)
				if !sameExpr(exprOf(t, want), e) {
					t.Fatalf("%s is read as another tree", want)
				}
			}
		}
	}
	for kind := api.ENum; kind <= api.ELast; kind++ {
		e := sampleOf(kind)
		is(t, "alone", told(t, e), plainExpr(e, 0))
		text := printed(t, holding(set("x", e), store("y", e, e), branch(e, nil, nil)))
		bare := told(t, e)
		is(t, "in statements", text, "program p;\nbegin\n  x = "+bare+";\n  y["+bare+"] = "+bare+";\n  if "+bare+" {\n  }\nend\n")
	}
}

// withoutPair: a text without the brackets that open at a place, and false, if they are those of a call.
func withoutPair(s string, at int) (string, bool) {
	if s[at] != '(' || at > 0 && wordLike(s[at-1]) {
		return "", false
	}
	open := 0
	for i := at; ; i++ {
		switch s[i] {
		case '(':
			open++
		case ')':
			open--
		}
		if open == 0 {
			return s[:at] + " " + s[at+1:i] + " " + s[i+1:], true
		}
	}
}

// TestExprBrackets: without any of its brackets a text is none, or that of another tree (P1504).
func TestExprBrackets(t *testing.T) {
	p := picker(4)
	count := 0
	for range 3000 {
		e := p.anyExpr(5)
		text := told(t, e)
		is(t, "its text", text, plainExpr(e, 0))
		if !sameExpr(exprOf(t, text), e) {
			t.Fatalf("%s is read as another tree", text)
		}
		for at := range len(text) {
			less, ok := withoutPair(text, at)
			if !ok {
				continue
			}
			count++
			q, _, err := Parse(inBody("x = " + less + ";"))
			if err == api.OK && sameExpr(q.Body[0].E, e) {
				t.Fatalf("%s has brackets that are not needed", text)
			}
		}
	}
	if count < 1000 {
		t.Fatal("too few brackets: ", count)
	}
}

// TestExprLong: an expression has a text, however long (P1504).
func TestExprLong(t *testing.T) {
	e := name("a")
	for range 500000 {
		e = of(api.EAdd, e, name("b"))
	}
	text := told(t, e)
	if text != "a"+strings.Repeat(" + b", 500000) {
		t.Fatal(shown(text))
	}
	unprinted(t, "too long", holding(set("x", e)), api.ErrSize)
	e.Kids[1] = name("1")
	s, err := Expr(e)
	is(t, "a bad part", []any{s, err}, []any{"", api.ErrArg})
	unprinted(t, "too long, with a bad part", holding(set("x", e)), api.ErrArg)
}
