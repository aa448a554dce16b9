package lang

import (
	"fmt"
	"slices"
	"strings"
	"testing"

	"cadence/api"
)

// picker tells numbers that look like chance, the same ones in each run.
type picker uint64

func (p *picker) next() uint64 {
	*p ^= *p << 13
	*p ^= *p >> 7
	*p ^= *p << 17
	return uint64(*p)
}

func (p *picker) below(n int) int { return int(p.next() >> 11 % uint64(n)) }

func pickOf[T any](p *picker, list ...T) T { return list[p.below(len(list))] }

// is: what was answered is what the chapter says.
func is(t testing.TB, what string, got, want any) {
	t.Helper()
	if fmt.Sprint(got) != fmt.Sprint(want) {
		t.Fatalf("%s: %v, not %v", what, got, want)
	}
}

// shown: a text, cut where it is too long to be told.
func shown(s string) string {
	if len(s) > 300 {
		return fmt.Sprintf("%q .. %q", s[:150], s[len(s)-150:])
	}
	return fmt.Sprintf("%q", s)
}

// parsed: the program of a text that may not be refused.
func parsed(t testing.TB, text string) api.Program {
	t.Helper()
	p, line, e := Parse(text)
	if e != api.OK || line != 0 {
		t.Fatalf("%s: %d in line %d", shown(text), e, line)
	}
	return p
}

// printed: the text of a program that may not be refused.
func printed(t testing.TB, p api.Program) string {
	t.Helper()
	s, e := Print(p)
	if e != api.OK {
		t.Fatalf("no text: %d, of %+v", e, p)
	}
	return s
}

// refused: that line and that error, and nothing beside them.
func refused(t testing.TB, text string, line int, want api.Errno) {
	t.Helper()
	p, got, e := Parse(text)
	if got != line || e != want {
		t.Fatalf("%s: %d in line %d, not %d in line %d", shown(text), e, got, want, line)
	}
	if !sameProgram(p, api.Program{}) {
		t.Fatalf("%s: %d, and a program beside it", shown(text), e)
	}
}

// unprinted: that error, and no text beside it.
func unprinted(t testing.TB, what string, p api.Program, want api.Errno) {
	t.Helper()
	if s, e := Print(p); s != "" || e != want {
		t.Fatalf("%s: %s %d, not %d", what, shown(s), e, want)
	}
}

func sameExpr(a, b api.Expr) bool {
	return a.Kind == b.Kind && a.Num == b.Num && a.Name == b.Name && slices.EqualFunc(a.Kids, b.Kids, sameExpr)
}

func sameStmt(a, b api.Stmt) bool {
	return a.Kind == b.Kind && a.Name == b.Name && sameExpr(a.At, b.At) && sameExpr(a.E, b.E) && a.Lo == b.Lo && a.Hi == b.Hi &&
		slices.EqualFunc(a.Then, b.Then, sameStmt) && slices.EqualFunc(a.Else, b.Else, sameStmt)
}

func sameDecl(a, b api.Decl) bool {
	return a.Kind == b.Kind && a.Name == b.Name && a.Size == b.Size && slices.Equal(a.Values, b.Values)
}

// sameProgram: lists that are nil and empty ones are the same.
func sameProgram(a, b api.Program) bool {
	return a.Name == b.Name && a.Width == b.Width && a.Line == b.Line &&
		slices.EqualFunc(a.Decls, b.Decls, sameDecl) && slices.EqualFunc(a.Body, b.Body, sameStmt)
}

func num(n uint64) api.Expr { return api.Expr{Kind: api.ENum, Num: n} }

func name(s string) api.Expr { return api.Expr{Kind: api.EName, Name: s} }

func load(s string, at api.Expr) api.Expr {
	return api.Expr{Kind: api.ELoad, Name: s, Kids: []api.Expr{at}}
}

func of(kind int, kids ...api.Expr) api.Expr { return api.Expr{Kind: kind, Kids: kids} }

func set(s string, e api.Expr) api.Stmt { return api.Stmt{Kind: api.SSet, Name: s, E: e} }

func store(s string, at, e api.Expr) api.Stmt {
	return api.Stmt{Kind: api.SStore, Name: s, At: at, E: e}
}

func branch(e api.Expr, then, otherwise []api.Stmt) api.Stmt {
	return api.Stmt{Kind: api.SIf, E: e, Then: then, Else: otherwise}
}

func loop(s string, lo, hi uint64, then ...api.Stmt) api.Stmt {
	return api.Stmt{Kind: api.SFor, Name: s, Lo: lo, Hi: hi, Then: then}
}

func release(s string) api.Stmt { return api.Stmt{Kind: api.SRelease, Name: s} }

// holding: a program with these statements.
func holding(body ...api.Stmt) api.Program {
	return api.Program{Name: "p", Width: 32, Line: 1, Body: body}
}

// rulesInOrder: the kinds of each rule, as the grammar has them.
func rulesInOrder() [][]int {
	return [][]int{
		{api.EEq, api.ENe, api.ELt, api.ELe, api.EGt, api.EGe},
		{api.EOr},
		{api.EXor},
		{api.EAnd},
		{api.EShl, api.EShr, api.ERol, api.ERor},
		{api.EAdd, api.ESub},
		{api.EMul, api.EDiv, api.ERem},
		{api.ECom, api.ENeg},
		{api.ENum, api.EName, api.ELoad, api.ESar, api.ESlt, api.ESel},
	}
}

// ruleOf: the place of a kind's rule among them.
func ruleOf(kind int) int {
	return slices.IndexFunc(rulesInOrder(), func(kinds []int) bool { return slices.Contains(kinds, kind) })
}

// plainSign: the sign or word of a kind.
func plainSign(kind int) string {
	words := strings.Fields("~ - * / % + - << >> <<< >>> & ^ | == != < <= > >= sar slt sel")
	return words[kind-api.ECom]
}

// kidsOf: how many parts a kind takes.
func kidsOf(kind int) int {
	switch kind {
	case api.ENum, api.EName:
		return 0
	case api.ELoad, api.ECom, api.ENeg:
		return 1
	case api.ESel:
		return 3
	}
	return 2
}

// reservedWords: as the chapter lists them.
func reservedWords() []string {
	return strings.Fields("program width line public secret const var out begin end if else for release sar slt sel")
}

// allSigns: as the chapter lists them.
func allSigns() []string {
	return strings.Fields("<<< >>> << >> <= >= == != < > = + - * / % & ^ | ~ ( ) [ ] { } , ;")
}

// anyName: a name, often a short one, now and then one of 24 bytes.
func (p *picker) anyName() string {
	return pickOf(p, "a", "b", "x", "k", "T", "_", "_1", "A_z9", "iff", "sel2", "End", "x_________1_________2__4", "abcdefghijklmnopqrstuvwx")
}

// anyNumber: one of the numbers at which something changes, or any.
func (p *picker) anyNumber() uint64 {
	return pickOf(p, 0, 1, 2, 9, 10, 999, 1000, 0xabcdef, 1<<63-1, 1<<63, 1<<64-1, p.next()>>p.below(64))
}

// anyExpr: a tree of at most so many levels.
func (p *picker) anyExpr(depth int) api.Expr {
	kind := 1 + p.below(api.ELast)
	if depth <= 1 {
		kind = 1 + p.below(2)
	}
	e := api.Expr{Kind: kind}
	switch kind {
	case api.ENum:
		e.Num = p.anyNumber()
	case api.EName, api.ELoad:
		e.Name = p.anyName()
	}
	for range kidsOf(kind) {
		e.Kids = append(e.Kids, p.anyExpr(1+p.below(depth)-p.below(2)))
	}
	return e
}

// anyStmts: up to three statements, of at most so many levels.
func (p *picker) anyStmts(depth int) []api.Stmt {
	var list []api.Stmt
	for range p.below(4) {
		list = append(list, p.anyStmt(depth))
	}
	return list
}

func (p *picker) anyStmt(depth int) api.Stmt {
	kind := 1 + p.below(5)
	if depth <= 1 {
		kind = pickOf(p, api.SSet, api.SStore, api.SRelease)
	}
	switch kind {
	case api.SSet:
		return set(p.anyName(), p.anyExpr(4))
	case api.SStore:
		return store(p.anyName(), p.anyExpr(3), p.anyExpr(4))
	case api.SIf:
		return branch(p.anyExpr(3), p.anyStmts(depth-1), p.anyStmts(depth-1))
	case api.SFor:
		return loop(p.anyName(), p.anyNumber(), p.anyNumber(), p.anyStmts(depth-1)...)
	}
	return release(p.anyName())
}

func (p *picker) anyDecl() api.Decl {
	d := api.Decl{Kind: 1 + p.below(5), Name: p.anyName(), Size: pickOf(p, 0, 1, 4, 7, 1000, 1<<63-1)}
	if d.Kind == api.DConst {
		d.Size = max(d.Size, 1)
		for range 1 + p.below(5) {
			d.Values = append(d.Values, p.anyNumber())
		}
	}
	return d
}

func (p *picker) anyProgram() api.Program {
	made := api.Program{Name: p.anyName(), Width: pickOf(p, 32, 32, 4, 0, 1000, 1<<63-1), Line: pickOf(p, 1, 1, 0, 16, 1<<63-1)}
	for range p.below(5) {
		made.Decls = append(made.Decls, p.anyDecl())
	}
	made.Body = p.anyStmts(4)
	return made
}
