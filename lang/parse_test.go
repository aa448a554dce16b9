package lang

import (
	"fmt"
	"slices"
	"strings"
	"testing"

	"cadence/api"
)

// inBody: a program's text with that in its body.
func inBody(s string) string { return "program p; begin " + s + " end" }

// TestExamples: the chapter's own (P1501, P1503).
func TestExamples(t *testing.T) {
	p := parsed(t, "program p; secret k; out x; begin x = k + 1 * 2; end")
	want := api.Program{Name: "p", Width: 32, Line: 1,
		Decls: []api.Decl{{Kind: api.DSecret, Name: "k"}, {Kind: api.DOut, Name: "x"}},
		Body:  []api.Stmt{set("x", of(api.EAdd, name("k"), of(api.EMul, num(1), num(2))))}}
	if !sameProgram(p, want) {
		t.Fatalf("%+v", p)
	}
	is(t, "its text", printed(t, p), "program p;\nsecret k;\nout x;\nbegin\n  x = k + 1 * 2;\nend\n")
	refused(t, "program p; begin x = 1 end", 1, api.ErrSyntax)
	refused(t, "program p;\nbegin\n$ end", 3, api.ErrToken)
	refused(t, "", 1, api.ErrSyntax)
	refused(t, "program if; begin end", 1, api.ErrSyntax)
	refused(t, "program p; begin x = 0x; end", 1, api.ErrToken)
	p = parsed(t, "program p; begin if 1 { } else { } end")
	if !sameProgram(p, holding(branch(num(1), nil, nil))) {
		t.Fatalf("%+v", p)
	}
	is(t, "an if", printed(t, p), "program p;\nbegin\n  if 1 {\n  }\nend\n")
}

// TestParseTrees: which tree a text has (P1501).
func TestParseTrees(t *testing.T) {
	rows := []struct {
		text string
		want api.Program
	}{
		{"program p;begin end", holding()},
		{"program p; width 8; begin end", api.Program{Name: "p", Width: 8, Line: 1}},
		{"program p; line 4; begin end", api.Program{Name: "p", Width: 32, Line: 4}},
		{"program p; line 4; width 16; begin end", api.Program{Name: "p", Width: 16, Line: 4}},
		{"program p; width 0; line 0; begin end", api.Program{Name: "p"}},
		{"program p; width 0x7fffffffffffffff; line 9223372036854775807; begin end", api.Program{Name: "p", Width: 1<<63 - 1, Line: 1<<63 - 1}},
		{"program _; public a; secret a[1]; var b[9223372036854775807]; out c[0x10]; const d[007] = 1, 18446744073709551615; begin end",
			api.Program{Name: "_", Width: 32, Line: 1, Decls: []api.Decl{{Kind: api.DPublic, Name: "a"}, {Kind: api.DSecret, Name: "a", Size: 1}, {Kind: api.DVar, Name: "b", Size: 1<<63 - 1}, {Kind: api.DOut, Name: "c", Size: 16}, {Kind: api.DConst, Name: "d", Size: 7, Values: []uint64{1, 1<<64 - 1}}}}},
		{inBody("x = 1; x[2] = 3; release x;"), holding(set("x", num(1)), store("x", num(2), num(3)), release("x"))},
		{inBody("for i 0 4 { for i 5 0xffffffffffffffff { } }"), holding(loop("i", 0, 4, loop("i", 5, 1<<64-1)))},
		{inBody("if a { x = 1; } else { x = 2; release x; } if b { } else { x = 1; }"),
			holding(branch(name("a"), []api.Stmt{set("x", num(1))}, []api.Stmt{set("x", num(2)), release("x")}), branch(name("b"), nil, []api.Stmt{set("x", num(1))}))},
		{inBody("if a { if b { } else { } } else { if c { } }"), holding(branch(name("a"), []api.Stmt{branch(name("b"), nil, nil)}, []api.Stmt{branch(name("c"), nil, nil)}))},
		{inBody("if a { x = 1; } else { }"), holding(branch(name("a"), []api.Stmt{set("x", num(1))}, nil))},
		{inBody("if a[1] { } if (a) { } if -a < b { }"), holding(branch(load("a", num(1)), nil, nil), branch(name("a"), nil, nil), branch(of(api.ELt, of(api.ENeg, name("a")), name("b")), nil, nil))},
		{inBody("p[p] = p;"), holding(store("p", name("p"), name("p")))},
		{inBody("programs = widths + ends - If * ELSE;"), holding(set("programs", of(api.ESub, of(api.EAdd, name("widths"), name("ends")), of(api.EMul, name("If"), name("ELSE")))))},
	}
	for _, r := range rows {
		if p := parsed(t, r.text); !sameProgram(p, r.want) {
			t.Errorf("%s: %+v, not %+v", r.text, p, r.want)
		}
	}
}

// exprOf: the tree of an expression's text.
func exprOf(t testing.TB, text string) api.Expr {
	t.Helper()
	p := parsed(t, inBody("x = "+text+";"))
	if len(p.Body) != 1 || p.Body[0].Kind != api.SSet {
		t.Fatalf("%s: %+v", text, p.Body)
	}
	return p.Body[0].E
}

// TestParseExprs: operators of each rule, from the left, and mixed; brackets leave no trace (P1501).
func TestParseExprs(t *testing.T) {
	a, b, c, d := name("a"), name("b"), name("c"), name("d")
	rows := []struct {
		text string
		want api.Expr
	}{
		{"a - b - c", of(api.ESub, of(api.ESub, a, b), c)},
		{"a-b+c-d", of(api.ESub, of(api.EAdd, of(api.ESub, a, b), c), d)},
		{"a * b / c % d", of(api.ERem, of(api.EDiv, of(api.EMul, a, b), c), d)},
		{"a << b >> c", of(api.EShr, of(api.EShl, a, b), c)},
		{"a <<< b >>> c", of(api.ERor, of(api.ERol, a, b), c)},
		{"a < b == c", of(api.EEq, of(api.ELt, a, b), c)},
		{"a <= b >= c != d", of(api.ENe, of(api.EGe, of(api.ELe, a, b), c), d)},
		{"a > b > c", of(api.EGt, of(api.EGt, a, b), c)},
		{"a | b | c", of(api.EOr, of(api.EOr, a, b), c)},
		{"a ^ b ^ c", of(api.EXor, of(api.EXor, a, b), c)},
		{"a & b & c", of(api.EAnd, of(api.EAnd, a, b), c)},
		{"a == b | c", of(api.EEq, a, of(api.EOr, b, c))},
		{"a | b == c", of(api.EEq, of(api.EOr, a, b), c)},
		{"a | b ^ c", of(api.EOr, a, of(api.EXor, b, c))},
		{"a ^ b | c", of(api.EOr, of(api.EXor, a, b), c)},
		{"a ^ b & c", of(api.EXor, a, of(api.EAnd, b, c))},
		{"a & b << c", of(api.EAnd, a, of(api.EShl, b, c))},
		{"a << b & c", of(api.EAnd, of(api.EShl, a, b), c)},
		{"a << b + c", of(api.EShl, a, of(api.EAdd, b, c))},
		{"a + b << c", of(api.EShl, of(api.EAdd, a, b), c)},
		{"a + b * c", of(api.EAdd, a, of(api.EMul, b, c))},
		{"a * b + c", of(api.EAdd, of(api.EMul, a, b), c)},
		{"-a * b", of(api.EMul, of(api.ENeg, a), b)},
		{"a * -b", of(api.EMul, a, of(api.ENeg, b))},
		{"a - -b", of(api.ESub, a, of(api.ENeg, b))},
		{"a--b", of(api.ESub, a, of(api.ENeg, b))},
		{"~-~a", of(api.ECom, of(api.ENeg, of(api.ECom, a)))},
		{"--a", of(api.ENeg, of(api.ENeg, a))},
		{"-a[b]", of(api.ENeg, load("a", b))},
		{"-1", of(api.ENeg, num(1))},
		{"(a)", a},
		{"(((a)))", a},
		{"a - (b - c)", of(api.ESub, a, of(api.ESub, b, c))},
		{"(a - b) - c", of(api.ESub, of(api.ESub, a, b), c)},
		{"(a + b) * c", of(api.EMul, of(api.EAdd, a, b), c)},
		{"-(a * b)", of(api.ENeg, of(api.EMul, a, b))},
		{"a == (b == c)", of(api.EEq, a, of(api.EEq, b, c))},
		{"a[b[c[d]]]", load("a", load("b", load("c", d)))},
		{"a[b == c] + d", of(api.EAdd, load("a", of(api.EEq, b, c)), d)},
		{"sar(a, b)", of(api.ESar, a, b)},
		{"slt(a == b, c) + d", of(api.EAdd, of(api.ESlt, of(api.EEq, a, b), c), d)},
		{"sel(a, b, c)", of(api.ESel, a, b, c)},
		{"~sel((a), -b, c | d)", of(api.ECom, of(api.ESel, a, of(api.ENeg, b), of(api.EOr, c, d)))},
		{"a + b < c ^ d & a == b", of(api.EEq, of(api.ELt, of(api.EAdd, a, b), of(api.EXor, c, of(api.EAnd, d, a))), b)},
		{"a | b ^ c & d << a + b * ~c", of(api.EOr, a, of(api.EXor, b, of(api.EAnd, c, of(api.EShl, d, of(api.EAdd, a, of(api.EMul, b, of(api.ECom, c)))))))},
		{"~a * b + c << d & a ^ b | c == d", of(api.EEq, of(api.EOr, of(api.EXor, of(api.EAnd, of(api.EShl, of(api.EAdd, of(api.EMul, of(api.ECom, a), b), c), d), a), b), c), d)},
		{"0", num(0)}, {"00", num(0)}, {"0x0", num(0)}, {"0xAbC", num(0xabc)}, {"18446744073709551615", num(1<<64 - 1)},
	}
	for _, r := range rows {
		if e := exprOf(t, r.text); !sameExpr(e, r.want) {
			t.Errorf("%s: %+v, not %+v", r.text, e, r.want)
		}
	}
}

// TestParsePairsOfOperators: of each two operators the one of the later rule binds closer; of one rule, the left one (P1501).
func TestParsePairsOfOperators(t *testing.T) {
	a, b, c := name("a"), name("b"), name("c")
	for first := api.EMul; first <= api.EGe; first++ {
		for second := api.EMul; second <= api.EGe; second++ {
			want := of(second, of(first, a, b), c)
			if ruleOf(second) > ruleOf(first) {
				want = of(first, a, of(second, b, c))
			}
			text := "a" + plainSign(first) + "b" + plainSign(second) + "c"
			if e := exprOf(t, text); !sameExpr(e, want) {
				t.Errorf("%s: %+v", text, e)
			}
		}
		for unary := api.ECom; unary <= api.ENeg; unary++ {
			sign := plainSign(unary)
			text := sign + "a " + plainSign(first) + sign + "b"
			if e := exprOf(t, text); !sameExpr(e, of(first, of(unary, a), of(unary, b))) {
				t.Errorf("%s: %+v", text, e)
			}
		}
	}
}

// TestParseSize: MaxText bytes are read, one more is not, whatever they are (P1501).
func TestParseSize(t *testing.T) {
	text := "program p; begin end"
	for _, fill := range []string{" ", "\n", "\t", "\r", "/"} {
		full := text + strings.Repeat(fill, api.MaxText-len(text))
		if !sameProgram(parsed(t, full), holding()) {
			t.Errorf("with %q another program", fill)
		}
		refused(t, full+fill, 0, api.ErrSize)
	}
	refused(t, strings.Repeat("$", api.MaxText), 1, api.ErrToken)
	refused(t, strings.Repeat("$", api.MaxText+1), 0, api.ErrSize)
	refused(t, strings.Repeat("\n", api.MaxText), api.MaxText+1, api.ErrSyntax)
	refused(t, strings.Repeat("\n", api.MaxText+1), 0, api.ErrSize)
	refused(t, strings.Repeat("(", api.MaxText), 1, api.ErrSyntax)
}

// TestParseLong: long lists and long chains of operators, as long as a text may be (P1501, P1).
func TestParseLong(t *testing.T) {
	n := api.MaxText/2 - 20
	p := parsed(t, inBody("x = a"+strings.Repeat("-a", n)+";"))
	e, count := p.Body[0].E, 0
	for e.Kind == api.ESub {
		e = e.Kids[0]
		count++
	}
	is(t, "operators", []any{count, e.Name}, []any{n, "a"})
	is(t, "form", Form(p), true)
	unprinted(t, "four bytes each", p, api.ErrSize)
	p = parsed(t, inBody(strings.Repeat("a=1;", api.MaxText/4-10)))
	is(t, "statements", len(p.Body), api.MaxText/4-10)
	p = parsed(t, "program p; const t[1] = 1"+strings.Repeat(",1", api.MaxText/2-30)+"; begin end")
	is(t, "words", len(p.Decls[0].Values), api.MaxText/2-29)
	p = parsed(t, inBody("x = "+strings.Repeat("0", api.MaxText-40)+"7;"))
	is(t, "a long number", p.Body[0].E.Num, 7)
}

// TestBlanks: all blanks, anywhere between tokens; no others (P1501).
func TestBlanks(t *testing.T) {
	for b := range 256 {
		blank := string([]byte{byte(b)})
		text := strings.Join([]string{"program", "p", ";", "begin", "x", "=", "a", "+", "b", ";", "end"}, blank)
		if strings.Contains("\t\n\r ", blank) {
			parsed(t, blank+text+blank)
			continue
		}
		_, _, e := Parse(text)
		if e == api.OK {
			t.Errorf("the byte %d is no blank", b)
		}
	}
}

// TestComments: from // to a byte 10 or to the end (P1501).
func TestComments(t *testing.T) {
	want := holding(set("x", of(api.EDiv, name("a"), name("b"))))
	for _, text := range []string{
		"// first\nprogram p; begin x = a / b; end",
		"program p; begin x = a / b; end// last",
		"program p; begin x = a / b; end // last",
		"program p; begin x = a / b; end //",
		"program p; begin x = a / b; end//\n",
		"program//\np//;\n;//$ 0x\nbegin x = a / // b; \r \xff\x00 end\nb; end",
		"program p; begin x = a/b; //// x = 2; //\nend",
		"program p; begin x = a /\n//\n//\nb; end",
		"//program p; begin end\nprogram p; begin x = a//-\n/b; end",
	} {
		if p := parsed(t, text); !sameProgram(p, want) {
			t.Errorf("%q: %+v", text, p)
		}
	}
	refused(t, "// program p; begin end", 1, api.ErrSyntax)
	refused(t, "program p; begin end // \r x\n x", 2, api.ErrSyntax)
	refused(t, "program p; begin x = a /* b */; end", 1, api.ErrSyntax)
	refused(t, "program p; begin x = a /\n/ b; end", 2, api.ErrSyntax)
	refused(t, "program p; begin x = a // b; end", 1, api.ErrSyntax)
	refused(t, "program p; begin // end\n//\n", 3, api.ErrSyntax)
}

// TestTokens: what is no token is told ahead of all else, the first one with its line (P1501).
func TestTokens(t *testing.T) {
	long := strings.Repeat("a", api.MaxName)
	parsed(t, "program "+long+"; begin "+long+" = "+long+"; end")
	for _, bad := range []string{
		long + "a", strings.Repeat("_", 25), "Z" + strings.Repeat("9", 24), strings.Repeat("a", 5000),
		"0x", "0xg", "0X1", "1a", "1_", "1_000", "0b1", "0x1_0", "1e3", "18446744073709551616", "0x10000000000000000", "99999999999999999999999999",
		"!", "$", "#", "@", "'", "\"", ".", ":", "?", "\\", "`", "\x00", "\x0b", "\x0c", "\x7f", "\x80", "\xff", "é", "\u00a0", "\ufeff",
	} {
		refused(t, bad, 1, api.ErrToken)
		refused(t, "program p;\nbegin\nx = "+bad+";\nend", 3, api.ErrToken)
		refused(t, "program p;\nbegin\nx ="+bad+"\n;\nend", 3, api.ErrToken)
		refused(t, "program p; begin end\n\n"+bad, 3, api.ErrToken)
		refused(t, ") ) )\n\n\n"+bad+" $", 4, api.ErrToken)
		refused(t, "program p; begin // "+bad+"\nend "+bad+"\n$", 2, api.ErrToken)
		parsed(t, "program p; begin end // "+bad)
	}
	refused(t, "program p; begin x = "+strings.Repeat("~", 300)+"a;\n end\n!", 3, api.ErrToken)
	refused(t, "\n\n$\n$", 3, api.ErrToken)
	refused(t, "program p; begin x = a !b; end", 1, api.ErrToken)
	refused(t, "program p; begin x = a ! = b; end", 1, api.ErrToken)
	for b := range 256 {
		s := string([]byte{byte(b)})
		_, _, e := Parse(inBody(s))
		isToken := wordLike(byte(b)) || strings.Contains("\t\n\r <>=+-*/%&^|~()[]{},;", s)
		if b >= 128 {
			isToken = false
		}
		if (e == api.ErrToken) == isToken {
			t.Errorf("the byte %d: %d", b, e)
		}
	}
}

// TestLongestSign: a sign ends where the longest one does (P1501).
func TestLongestSign(t *testing.T) {
	rows := []struct{ text, apart string }{
		{"a<<<b", "a <<< b"}, {"a>>>b", "a >>> b"}, {"a<<b", "a << b"}, {"a>>b", "a >> b"},
		{"a<=b", "a <= b"}, {"a>=b", "a >= b"}, {"a==b", "a == b"}, {"a!=b", "a != b"}, {"a<b", "a < b"}, {"a>b", "a > b"},
		{"a<-b", "a < - b"}, {"a<~b", "a < ~ b"}, {"a-~-b", "a - ~ - b"}, {"a==-b", "a == - b"}, {"a<<-b", "a << - b"},
	}
	for _, r := range rows {
		if !sameExpr(exprOf(t, r.text), exprOf(t, r.apart)) {
			t.Errorf("%s is not %s", r.text, r.apart)
		}
	}
	for _, bad := range []string{"a< <b", "a< =b", "a= =b", "a<<=b", "a<<<<b", "a>>>>b", "a>>>=b", "a===b", "a!==b", "a<>b", "a=<b", "a=>b", "a> >b", "a<< <b", "a&&b", "a||b", "a**b", "a++b", "a=b"} {
		refused(t, "program p; begin\nx = "+bad+"; end", 2, api.ErrSyntax)
	}
	parsed(t, "program p; begin x=1;x[1]=-1;if a==b{}end")
	parsed(t, "program p;const t[1]=1;begin x=t[0]==-~1;for i 0 1{}end")
}

// TestWordsAndNumbers: a word or a number ends where no letter, _ or digit stands (P1501).
func TestWordsAndNumbers(t *testing.T) {
	if e := exprOf(t, "a1+1+_9z+0x1f"); !sameExpr(e, of(api.EAdd, of(api.EAdd, of(api.EAdd, name("a1"), num(1)), name("_9z")), num(31))) {
		t.Errorf("%+v", e)
	}
	for _, text := range []string{"programp; begin end", "program p; beginend", "program p; begin releasex; end", "program p; width8; begin end", "program p; begin for i 04 { } end", "program p; begin ifa { } end", "program p; begin if 1 { } elses { } end"} {
		refused(t, text, 1, api.ErrSyntax)
	}
	for _, text := range []string{"program p; begin for i 0i { } end", "program p; begin x = 1end", "program p; width 8width 8; begin end"} {
		refused(t, text, 1, api.ErrToken)
	}
}

// TestReservedIsNoName: each reserved word where a name must stand (P1501).
func TestReservedIsNoName(t *testing.T) {
	for _, w := range reservedWords() {
		for _, ahead := range []string{"program", "program p; var", "program p; const", "program p; public", "program p; secret", "program p; out", "program p; begin release", "program p; begin for"} {
			refused(t, ahead+"\n"+w+"\n; begin end", 2, api.ErrSyntax)
		}
		if !slices.Contains(strings.Fields("if for release end"), w) {
			refused(t, inBody("\n"+w+"\n= 1;"), 2, api.ErrSyntax)
		}
		if !slices.Contains(strings.Fields("sar slt sel"), w) {
			refused(t, inBody("x =\n"+w+";"), 2, api.ErrSyntax)
			refused(t, inBody("x = 1 +\n"+w+";"), 2, api.ErrSyntax)
			refused(t, inBody("x = a[\n"+w+"\n];"), 2, api.ErrSyntax)
		} else {
			refused(t, inBody("x = "+w+"\n;"), 2, api.ErrSyntax)
			refused(t, inBody("x = "+w+"\n[1];"), 2, api.ErrSyntax)
		}
	}
}

// TestReserved: the list, and nothing beside it (P1506).
func TestReserved(t *testing.T) {
	words := reservedWords()
	is(t, "how many", len(words), 17)
	for _, w := range words {
		is(t, w, Reserved(w), true)
		for _, other := range []string{strings.ToUpper(w), strings.ToUpper(w[:1]) + w[1:], w + "s", "_" + w, w + " ", " " + w, w[1:], w[:len(w)-1], w + w, w + "\x00"} {
			is(t, other, Reserved(other), false)
		}
	}
	for _, s := range []string{"", "k", "p", "=", "+", "(", "0", "name", "number", "decl", "stmt", "block", "expr", "or", "xor", "and", "shift", "sum", "product", "unary", "primary", "let", "while", "return", "shl", "rol", "\xff"} {
		is(t, s, Reserved(s), false)
	}
}

// TestSettings: width and line stand once at most, in any order, ahead of the declarations (P1501).
func TestSettings(t *testing.T) {
	rows := []struct {
		text string
		line int
	}{
		{"width 8;\nwidth 8;", 2},
		{"width 8;\nwidth\n 8;", 2},
		{"line 2;\nline 2;", 2},
		{"width 8; line 2;\nwidth 8;", 2},
		{"line 2; width 8;\nline\n0x8000000000000000;", 2},
		{"width\n;", 2}, {"width 8\nline 2;", 2}, {"width\n-8;", 2}, {"width\na;", 2}, {"width 8\n8;", 2}, {"line 1\n,", 2},
		{"width\n9223372036854775808;", 2}, {"line\n9223372036854775808;", 2}, {"width\n0xffffffffffffffff;", 2}, {"line\n0xffffffffffffffff;", 2},
		{"var a;\nwidth 8;", 2}, {"var a;\nline 8;", 2}, {"width 8; var a;\nline 8;", 2},
	}
	for _, r := range rows {
		refused(t, "program p; "+r.text+" begin end", r.line, api.ErrSyntax)
	}
	for _, n := range []uint64{0, 1, 31, 32, 33, 1<<63 - 1} {
		for _, text := range []string{fmt.Sprintf("width %d; line %d;", n, n), fmt.Sprintf("line %d; width %d;", n, n), fmt.Sprintf("width %#x; line %#x;", n, n)} {
			p := parsed(t, "program p; "+text+" begin end")
			is(t, text, []int{p.Width, p.Line}, []uint64{n, n})
		}
	}
}

// TestDecls: each kind, with and without a size; sizes at their bounds; tables (P1501).
func TestDecls(t *testing.T) {
	for kind, word := range map[int]string{api.DPublic: "public", api.DSecret: "secret", api.DVar: "var", api.DOut: "out"} {
		for text, size := range map[string]int{"": 0, "[1]": 1, "[ 2 ]": 2, "[0x7fffffffffffffff]": 1<<63 - 1} {
			p := parsed(t, "program p; "+word+" a"+text+"; begin end")
			if len(p.Decls) != 1 || !sameDecl(p.Decls[0], api.Decl{Kind: kind, Name: "a", Size: size}) {
				t.Errorf("%s%s: %+v", word, text, p.Decls)
			}
		}
		for _, bad := range []string{"a[\n0]", "a[\n9223372036854775808]", "a[\n0xffffffffffffffff]", "a[\n]", "a[\nb]", "a[\n-1]", "a[1\n+ 1]", "a[1\n,", "a[1]\n[1]", "a[1\n", "a\n= 1", "a[1]\n= 1", "a\n, b", "\n", "\n1", "a\n]", "a\n(1)"} {
			refused(t, "program p; "+word+" "+bad+"; begin end", 2, api.ErrSyntax)
		}
	}
	for text, d := range map[string]api.Decl{
		"t[1] = 5":                      {Size: 1, Values: []uint64{5}},
		"t[4] = 0":                      {Size: 4, Values: []uint64{0}},
		"t[1] = 1, 2, 0xf":              {Size: 1, Values: []uint64{1, 2, 15}},
		"t[9223372036854775807] = 7, 7": {Size: 1<<63 - 1, Values: []uint64{7, 7}},
		"t[3]=18446744073709551615":     {Size: 3, Values: []uint64{1<<64 - 1}},
	} {
		d.Kind, d.Name = api.DConst, "t"
		p := parsed(t, "program p; const "+text+"; begin end")
		if len(p.Decls) != 1 || !sameDecl(p.Decls[0], d) {
			t.Errorf("%s: %+v", text, p.Decls)
		}
	}
	for _, bad := range []string{"t\n= 1", "t\n;", "t[\n0] = 1", "t[\n9223372036854775808] = 1", "t[2]\n;", "t[2] =\n;", "t[2] = 1,\n;", "t[2] =\n-1", "t[2] = 1\n2", "t[2] =\n, 1", "t[2] = 1\n+ 1", "t[2] =\na", "t[2]\n1", "t[2] = (\n1)", "t[2]\n== 1"} {
		want := 2
		if strings.Contains(bad, "(") {
			want = 1
		}
		refused(t, "program p; const "+bad+"; begin end", want, api.ErrSyntax)
	}
}

// TestSyntax: the line is that of the first token with which nothing goes on; at the end, that of the end (P1501).
func TestSyntax(t *testing.T) {
	for _, bad := range []string{
		"\np", "program\n;", "program\n1;", "program p\nbegin end", "program p,\n", "program p;\nend", "program p;\n", "program p;\nx = 1;", "program p; ;\n",
		"program p; begin\n", "program p; begin\n;", "program p; begin x\n;", "program p; begin x\n+ 1;", "program p; begin x =\n;", "program p; begin x = 1\n", "program p; begin x = 1\n}",
		"program p; begin x[1]\n;", "program p; begin x[1\n) = 1;", "program p; begin x\n(1) = 1;", "program p; begin x[\n] = 1;", "program p; begin x = 1 =\n 2;", "program p; begin x =\n= 2;",
		"program p; begin 1\n", "program p; begin {\n}", "program p; begin if\n{ }", "program p; begin if a\nx = 1;", "program p; begin if a {\nend", "program p; begin if a { }\n}", "program p; begin if a { } else\nif b { }",
		"program p; begin if a { }\n; end", "program p; begin if a { } else { }\nelse { } end", "program p; begin\nelse { } end", "program p; begin for\n1 2 { }", "program p; begin for i\n{ }", "program p; begin for i 0\n{ }", "program p; begin for i 0 1 2\n", "program p; begin for i 0\n, 1 { }",
		"program p; begin for i\n-1 1 { }", "program p; begin for i 0\na { }", "program p; begin for i\n= 0 1 { }", "program p; begin release\n;", "program p; begin release x\n[1];", "program p; begin release x\nend", "program p; begin release\n(x);", "program p; begin release x\n+ 1;",
		"program p; begin end\nend", "program p; begin end\n;", "program p; begin end\nprogram p; begin end", "program p; begin var\nx; end", "program p; begin x = 1;\n", "program p; begin x = (1\n;", "program p; begin x = (\n);", "program p; begin x = 1\n);", "program p; begin x = a\nb;",
		"program p; begin x = a +\n;", "program p; begin x = +\n1;", "program p; begin x = *\na;", "program p; begin x = ~\n;", "program p; begin x = a ~\nb;", "program p; begin x = a[1]\n[2];", "program p; begin x = 1\n[2];", "program p; begin x = (a)\n[2];", "program p; begin x = a\n(1);",
		"program p; begin x = sar\na;", "program p; begin x = sar(a\n);", "program p; begin x = sar(a, b\n, c);", "program p; begin x = slt(\n, b);", "program p; begin x = slt(a\n; b);", "program p; begin x = sel(a, b\n);", "program p; begin x = sel(a, b, c\n, d);", "program p; begin x = sel\n[1];", "program p; begin sel\n(1) = 1;", "program p; begin x = (a\n, b);", "program p; begin x = a\n, b;",
	} {
		want := 2
		switch { // what is wrong ahead of the break of the line
		case slices.Contains([]string{"program p,\n", "program p; ;\n", "program p; begin 1\n", "program p; begin {\n}", "program p; begin x = 1 =\n 2;", "program p; begin for i 0 1 2\n", "program p; begin var\nx; end", "program p; begin x = +\n1;", "program p; begin x = *\na;", "program p; begin x = a ~\nb;", "program p; begin sel\n(1) = 1;"}, bad):
			want = 1
		}
		refused(t, bad, want, api.ErrSyntax)
	}
	whole := strings.Fields("program p ; width 8 ; const t [ 2 ] = 1 , 2 ; begin if t [ 0 ] { x [ 1 ] = sel ( 1 , 2 , ~ 3 ) ; } else { release x ; } for i 0 2 { } end")
	for i := range whole {
		refused(t, strings.Join(whole[:i], "\n"), max(i, 1), api.ErrSyntax)
		refused(t, strings.Join(whole[:i], "\n")+"\n\n // \n", max(i, 1)+3, api.ErrSyntax)
	}
	parsed(t, strings.Join(whole, "\n"))
}

// TestFault: what the parser gives up with is an error, which tells the line and the number's own text.
func TestFault(t *testing.T) {
	var err error = fault{3, api.ErrToken}
	is(t, "its text", err.Error(), "line 3: "+api.ErrToken.Error())
}
