package lang

import (
	"math"
	"strings"

	"cadence/api"
)

// What a program has, if its text does not say.
const (
	usualWidth = 32
	usualLine  = 1
)

// parser reads a program, a token ahead. What it can not read it gives up by a panic, which Parse catches.
type parser struct {
	tokens scanner
	ahead  token
	open   int // opening signs and operators of unary that are open there
}

func newParser(text string) *parser {
	r := &parser{tokens: newScanner(text)}
	r.step()
	return r
}

// step goes past the token ahead.
func (r *parser) step() { r.ahead = r.tokens.next() }

// giveUp ends the reading at the token ahead.
func (r *parser) giveUp(code api.Errno) { panic(fault{r.ahead.line, code}) }

// at: is the token ahead that word or sign?
func (r *parser) at(text string) bool { return r.ahead.kind == itself && r.ahead.text == text }

// took: goes past a word or sign, if it is ahead.
func (r *parser) took(text string) bool {
	is := r.at(text)
	if is {
		r.step()
	}
	return is
}

// take goes past a word or sign that must be ahead.
func (r *parser) take(text string) {
	if !r.took(text) {
		r.giveUp(api.ErrSyntax)
	}
}

// enter opens what the token ahead begins.
func (r *parser) enter() {
	if r.open == mostOpen {
		r.giveUp(api.ErrDeep)
	}
	r.open++
	r.step()
}

// takeOpen goes past an opening sign that must be ahead.
func (r *parser) takeOpen(sign string) {
	if !r.at(sign) {
		r.giveUp(api.ErrSyntax)
	}
	r.enter()
}

// takeClose goes past a closing sign that must be ahead.
func (r *parser) takeClose(sign string) {
	r.take(sign)
	r.open--
}

// name reads a name; the tree does not hold on to the text.
func (r *parser) name() string {
	if r.ahead.kind != aName {
		r.giveUp(api.ErrSyntax)
	}
	name := strings.Clone(r.ahead.text)
	r.step()
	return name
}

// number reads a number.
func (r *parser) number() uint64 { return r.numberWithin(0, math.MaxUint64) }

// numberWithin reads a number that may be neither below one nor above another.
func (r *parser) numberWithin(least, most uint64) uint64 {
	num := r.ahead.num
	if r.ahead.kind != aNumber || num < least || num > most {
		r.giveUp(api.ErrSyntax)
	}
	r.step()
	return num
}

// program reads a whole text.
func (r *parser) program() api.Program {
	var p api.Program
	r.take("program")
	p.Name = r.name()
	r.take(";")
	p.Width, p.Line = r.settings()
	for !r.at("begin") {
		p.Decls = append(p.Decls, r.decl())
	}
	r.take("begin")
	p.Body = r.stmts("end")
	r.take("end")
	if r.ahead.kind != theEnd {
		r.giveUp(api.ErrSyntax)
	}
	return p
}

// settings reads the width and the line, each once at most: what stands a second time is no declaration either.
func (r *parser) settings() (width, line int) {
	hasWidth, hasLine := false, false
	width, line = usualWidth, usualLine
	for {
		switch {
		case !hasWidth && r.took("width"):
			hasWidth, width = true, r.setting()
		case !hasLine && r.took("line"):
			hasLine, line = true, r.setting()
		default:
			return width, line
		}
	}
}

// setting reads a number and the end of its part.
func (r *parser) setting() int {
	num := r.numberWithin(0, math.MaxInt64)
	r.take(";")
	return int(num)
}

// decl reads a declaration.
func (r *parser) decl() api.Decl {
	d := api.Decl{Kind: r.declKind()}
	d.Name = r.name()
	if d.Kind == api.DConst || r.at("[") {
		d.Size = r.size()
	}
	if d.Kind == api.DConst {
		r.take("=")
		d.Values = r.values()
	}
	r.take(";")
	return d
}

// declKind reads the word that a declaration begins with.
func (r *parser) declKind() int {
	for kind := api.DPublic; kind <= api.DOut; kind++ {
		if r.took(declWords[kind]) {
			return kind
		}
	}
	r.giveUp(api.ErrSyntax)
	return 0
}

// size reads an array's size.
func (r *parser) size() int {
	r.takeOpen("[")
	num := r.numberWithin(1, math.MaxInt64)
	r.takeClose("]")
	return int(num)
}

// values reads the words of a table.
func (r *parser) values() []uint64 {
	values := []uint64{r.number()}
	for r.took(",") {
		values = append(values, r.number())
	}
	return values
}

// stmts reads statements up to a word or sign, which stays ahead.
func (r *parser) stmts(end string) []api.Stmt {
	var list []api.Stmt
	for !r.at(end) {
		list = append(list, r.stmt())
	}
	return list
}

// block reads a block.
func (r *parser) block() []api.Stmt {
	r.takeOpen("{")
	list := r.stmts("}")
	r.takeClose("}")
	return list
}

// stmt reads a statement.
func (r *parser) stmt() api.Stmt {
	switch {
	case r.took("if"):
		return r.branch()
	case r.took("for"):
		return r.loop()
	case r.took("release"):
		s := api.Stmt{Kind: api.SRelease, Name: r.name()}
		r.take(";")
		return s
	}
	return r.assignment()
}

// branch reads an if, behind that word.
func (r *parser) branch() api.Stmt {
	s := api.Stmt{Kind: api.SIf, E: r.expr(ruleExpr)}
	s.Then = r.block()
	if r.took("else") {
		s.Else = r.block()
	}
	return s
}

// loop reads a for, behind that word.
func (r *parser) loop() api.Stmt {
	s := api.Stmt{Kind: api.SFor, Name: r.name()}
	s.Lo = r.number()
	s.Hi = r.number()
	s.Then = r.block()
	return s
}

// assignment reads a statement that begins with a name.
func (r *parser) assignment() api.Stmt {
	s := api.Stmt{Kind: api.SSet, Name: r.name()}
	if r.at("[") {
		s.Kind, s.At = api.SStore, r.index()
	}
	r.take("=")
	s.E = r.expr(ruleExpr)
	r.take(";")
	return s
}
