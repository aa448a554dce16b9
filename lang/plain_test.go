package lang

import (
	"fmt"
	"strconv"
	"strings"

	"cadence/api"
)

// What stands here writes trees as lists of tokens, by a plain reading of the grammar, with more brackets than are needed, if it is let; and lays any blanks between tokens.

// loose writes trees: extra tells where brackets stand that are not needed.
type loose struct {
	tokens []string
	extra  func() bool
}

func (l *loose) put(tokens ...string) { l.tokens = append(l.tokens, tokens...) }

func plainNumber(n uint64) string {
	if n < 1000 {
		return strconv.FormatUint(n, 10)
	}
	return "0x" + strconv.FormatUint(n, 16)
}

// expr: at a place that takes the rules from one on.
func (l *loose) expr(e api.Expr, from int) {
	needed := ruleOf(e.Kind) < from
	if needed || l.extra() {
		l.put("(")
		l.expr(e, 0)
		l.put(")")
		return
	}
	switch {
	case e.Kind == api.ENum:
		l.put(plainNumber(e.Num))
	case e.Kind == api.EName:
		l.put(e.Name)
	case e.Kind == api.ELoad:
		l.put(e.Name, "[")
		l.expr(e.Kids[0], 0)
		l.put("]")
	case e.Kind <= api.ENeg:
		l.put(plainSign(e.Kind))
		l.expr(e.Kids[0], 7)
	case e.Kind <= api.EGe:
		rule := ruleOf(e.Kind)
		l.expr(e.Kids[0], rule)
		l.put(plainSign(e.Kind))
		l.expr(e.Kids[1], rule+1)
	default:
		l.put(plainSign(e.Kind), "(")
		l.list(e.Kids)
		l.put(")")
	}
}

func (l *loose) list(kids []api.Expr) {
	for i, k := range kids {
		if i > 0 {
			l.put(",")
		}
		l.expr(k, 0)
	}
}

func (l *loose) stmts(list []api.Stmt) {
	for _, s := range list {
		l.stmt(s)
	}
}

func (l *loose) block(list []api.Stmt) {
	l.put("{")
	l.stmts(list)
	l.put("}")
}

func (l *loose) stmt(s api.Stmt) {
	switch s.Kind {
	case api.SSet, api.SStore:
		l.put(s.Name)
		if s.Kind == api.SStore {
			l.put("[")
			l.expr(s.At, 0)
			l.put("]")
		}
		l.put("=")
		l.expr(s.E, 0)
		l.put(";")
	case api.SIf:
		l.put("if")
		l.expr(s.E, 0)
		l.block(s.Then)
		if len(s.Else) > 0 || l.extra() {
			l.put("else")
			l.block(s.Else)
		}
	case api.SFor:
		l.put("for", s.Name, plainNumber(s.Lo), plainNumber(s.Hi))
		l.block(s.Then)
	case api.SRelease:
		l.put("release", s.Name, ";")
	}
}

func (l *loose) program(p api.Program) {
	l.put("program", p.Name, ";")
	first, second := []string{"width", plainNumber(uint64(p.Width)), ";"}, []string{"line", plainNumber(uint64(p.Line)), ";"}
	if p.Width == 32 && !l.extra() {
		first = nil
	}
	if p.Line == 1 && !l.extra() {
		second = nil
	}
	if l.extra() {
		first, second = second, first
	}
	l.put(first...)
	l.put(second...)
	for _, d := range p.Decls {
		l.put([]string{1: "public", 2: "secret", 3: "const", 4: "var", 5: "out"}[d.Kind], d.Name)
		if d.Size > 0 {
			l.put("[", plainNumber(uint64(d.Size)), "]")
		}
		for i, v := range d.Values {
			l.put([]string{"=", ","}[min(i, 1)], plainNumber(v))
		}
		l.put(";")
	}
	l.put("begin")
	l.stmts(p.Body)
	l.put("end")
}

func never() bool { return false }

// looseTokens: a program's tokens.
func looseTokens(p api.Program, extra func() bool) []string {
	l := loose{extra: extra}
	l.program(p)
	return l.tokens
}

func wordLike(b byte) bool {
	return b == '_' || b >= '0' && b <= '9' || b >= 'a' && b <= 'z' || b >= 'A' && b <= 'Z'
}

// spread: tokens with any blanks between them; none, where they stay what they are without.
func (p *picker) spread(tokens []string) string {
	var b strings.Builder
	last := ""
	for _, s := range tokens {
		b.WriteString(p.between(last, s))
		b.WriteString(s)
		last = s
	}
	b.WriteString(p.between(last, ""))
	return b.String()
}

func (p *picker) between(a, b string) string {
	tight := a == "" || b == "" || !wordLike(a[0]) && wordLike(b[0]) || wordLike(a[0]) && !wordLike(b[0]) || strings.Contains("()[]{};,", a)
	if tight && p.below(2) == 0 {
		return ""
	}
	blanks := pickOf(p, " ", "\n", "\t", "\r")
	for range p.below(3) {
		blanks += pickOf(p, " ", "\n", "\t", "\r", "//\n", "// a comment; end } $ \xff\x00 // more\r\n", "///*\n")
	}
	if b == "" && p.below(2) == 0 {
		blanks += "// without an end: 0x"
	}
	return blanks
}

// plainText: the text of a program, by a plain reading of P1503.
func plainText(p api.Program) string {
	var b strings.Builder
	fmt.Fprintf(&b, "program %s;\n", p.Name)
	if p.Width != 32 {
		fmt.Fprintf(&b, "width %s;\n", plainNumber(uint64(p.Width)))
	}
	if p.Line != 1 {
		fmt.Fprintf(&b, "line %s;\n", plainNumber(uint64(p.Line)))
	}
	for _, d := range p.Decls {
		fmt.Fprintf(&b, "%s %s", []string{1: "public", 2: "secret", 3: "const", 4: "var", 5: "out"}[d.Kind], d.Name)
		if d.Size != 0 {
			fmt.Fprintf(&b, "[%s]", plainNumber(uint64(d.Size)))
		}
		if d.Kind == api.DConst {
			var words []string
			for _, v := range d.Values {
				words = append(words, plainNumber(v))
			}
			b.WriteString(" = " + strings.Join(words, ", "))
		}
		b.WriteString(";\n")
	}
	return b.String() + "begin\n" + plainLines(p.Body, "  ") + "end\n"
}

func plainLines(list []api.Stmt, margin string) string {
	out := ""
	for _, s := range list {
		out += margin
		switch s.Kind {
		case api.SSet:
			out += s.Name + " = " + plainExpr(s.E, 0) + ";\n"
		case api.SStore:
			out += s.Name + "[" + plainExpr(s.At, 0) + "] = " + plainExpr(s.E, 0) + ";\n"
		case api.SRelease:
			out += "release " + s.Name + ";\n"
		case api.SFor:
			out += "for " + s.Name + " " + plainNumber(s.Lo) + " " + plainNumber(s.Hi) + " {\n" + plainLines(s.Then, margin+"  ") + margin + "}\n"
		case api.SIf:
			out += "if " + plainExpr(s.E, 0) + " {\n" + plainLines(s.Then, margin+"  ") + margin + "}"
			if len(s.Else) > 0 {
				out += " else {\n" + plainLines(s.Else, margin+"  ") + margin + "}"
			}
			out += "\n"
		}
	}
	return out
}

// plainExpr: the text of an expression, by a plain reading of P1504, at a place that takes the rules from one on.
func plainExpr(e api.Expr, from int) string {
	rule := ruleOf(e.Kind)
	if rule < from {
		return "(" + plainExpr(e, 0) + ")"
	}
	switch {
	case e.Kind == api.ENum:
		return plainNumber(e.Num)
	case e.Kind == api.EName:
		return e.Name
	case e.Kind == api.ELoad:
		return e.Name + "[" + plainExpr(e.Kids[0], 0) + "]"
	case rule == 7:
		return plainSign(e.Kind) + plainExpr(e.Kids[0], 7)
	case rule == 8:
		var kids []string
		for _, k := range e.Kids {
			kids = append(kids, plainExpr(k, 0))
		}
		return plainSign(e.Kind) + "(" + strings.Join(kids, ", ") + ")"
	}
	return plainExpr(e.Kids[0], rule) + " " + plainSign(e.Kind) + " " + plainExpr(e.Kids[1], rule+1)
}
