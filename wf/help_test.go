package wf

import (
	"fmt"
	"math"
	"slices"
	"strings"
	"testing"

	"cadence/api"
	"cadence/lang"
)

// picker tells numbers that look like chance, the same ones in each run.
type picker uint64

func (p *picker) next() uint64 {
	*p ^= *p << 13
	*p ^= *p >> 7
	*p ^= *p << 17
	return uint64(*p)
}

func (p *picker) below(n int) int { return int(p.next() >> 11 % uint64(n)) }

func pickOf[T any](p *picker, list ...T) T { return list[p.below(len(list))] }

// is: what was answered is what the chapter says.
func is(t testing.TB, what string, got, want any) {
	t.Helper()
	if fmt.Sprint(got) != fmt.Sprint(want) {
		t.Fatalf("%s: %v, not %v", what, got, want)
	}
}

// shown: a program's text, cut where it is too long to be told.
func shown(p api.Program) string {
	s, e := lang.Print(p)
	if e != api.OK {
		s = fmt.Sprintf("%+v", p)
	}
	if len(s) > 1500 {
		return s[:1000] + " .. " + s[len(s)-500:]
	}
	return s
}

// parsed: the program of a text, without the words that all texts begin with.
func parsed(t testing.TB, text string) api.Program {
	t.Helper()
	p, line, e := lang.Parse("program p; " + text)
	if e != api.OK {
		t.Fatalf("%s: %d in line %d", text, e, line)
	}
	return p
}

// fault: what Fault answers of a program.
type fault struct {
	number, place int
	code          api.Errno
}

// codes: the error of each clause, as the chapter lists them.
func codes() []api.Errno {
	return []api.Errno{api.OK, api.ErrArg, api.ErrWidth, api.ErrPower, api.ErrSize, api.ErrTwice, api.ErrPower, api.ErrValues, api.ErrRange, api.ErrInputs,
		api.ErrDeep, api.ErrUnknown, api.ErrKind, api.ErrRange, api.ErrBounds, api.ErrLoop, api.ErrUnrolled}
}

// at: a clause's number, a place, and the clause's error.
func at(number, place int) fault { return fault{number, place, codes()[number]} }

// faultOf: what Fault answers, if all other calls agree with it (P1601, and the errors of all functions).
func faultOf(t testing.TB, p api.Program) fault {
	t.Helper()
	number, place, e := Fault(p)
	got := fault{number, place, e}
	if number < 0 || number > 16 || got.code != codes()[number] {
		t.Fatalf("no clause, or not its error: %v, of %s", got, shown(p))
	}
	if again := Check(p); again != e {
		t.Fatalf("Check says %d, Fault %d, of %s", again, e, shown(p))
	}
	size, bad := Size(p)
	if bad != e || e == api.OK && (size < 0 || size > 65536) || e != api.OK && size != 0 {
		t.Fatalf("Size is %d, %d, and Fault %v, of %s", size, bad, got, shown(p))
	}
	things, bad := Things(p)
	if (bad == api.OK) != (number != 1) || bad != api.OK && (things != 0 || bad != api.ErrArg) {
		t.Fatalf("Things is %d, %d, and Fault %v, of %s", things, bad, got, shown(p))
	}
	if place < -1 || place > things-1 && number != 0 || number == 0 && place != 0 {
		t.Fatalf("no place: %v, with %d of them, of %s", got, things, shown(p))
	}
	return got
}

// faultIs: Fault answers that.
func faultIs(t testing.TB, what string, p api.Program, want fault) {
	t.Helper()
	if got := faultOf(t, p); got != want {
		t.Fatalf("%s: %v, not %v, of\n%s", what, got, want, shown(p))
	}
}

// right: no clause is violated.
func right(t testing.TB, what string, p api.Program) {
	t.Helper()
	faultIs(t, what, p, fault{})
}

// sizeIs: the program is right and has that size.
func sizeIs(t testing.TB, what string, p api.Program, want int) {
	t.Helper()
	right(t, what, p)
	if got, e := Size(p); got != want || e != api.OK {
		t.Fatalf("%s: the size is %d (%d), not %d, of\n%s", what, got, e, want, shown(p))
	}
}

// thingsOf: how many places a program has.
func thingsOf(t testing.TB, p api.Program) int {
	t.Helper()
	n, e := Things(p)
	if e != api.OK {
		t.Fatalf("no things: %d, of %s", e, shown(p))
	}
	return n
}

// namesAt: the names that are known at a place, with a blank between.
func namesAt(t testing.TB, p api.Program, place int) string {
	t.Helper()
	list, e := Names(p, place)
	if e != api.OK {
		t.Fatalf("no names at %d: %d, of %s", place, e, shown(p))
	}
	return strings.Join(list, " ")
}

// noNames: there is no such place.
func noNames(t testing.TB, p api.Program, place int) {
	t.Helper()
	if list, e := Names(p, place); len(list) != 0 || e != api.ErrArg {
		t.Fatalf("names at %d: %v, %d, of %s", place, list, e, shown(p))
	}
}

// nowhere: places that no program has, but for those behind its last.
func nowhere() []int { return []int{-1, -2, math.MinInt, math.MaxInt, 1 << 32} }

func num(n uint64) api.Expr { return api.Expr{Kind: api.ENum, Num: n} }

func name(s string) api.Expr { return api.Expr{Kind: api.EName, Name: s} }

func load(s string, at api.Expr) api.Expr {
	return api.Expr{Kind: api.ELoad, Name: s, Kids: []api.Expr{at}}
}

func of(kind int, kids ...api.Expr) api.Expr { return api.Expr{Kind: kind, Kids: kids} }

func set(s string, e api.Expr) api.Stmt { return api.Stmt{Kind: api.SSet, Name: s, E: e} }

func store(s string, at, e api.Expr) api.Stmt {
	return api.Stmt{Kind: api.SStore, Name: s, At: at, E: e}
}

func branch(e api.Expr, then, otherwise []api.Stmt) api.Stmt {
	return api.Stmt{Kind: api.SIf, E: e, Then: then, Else: otherwise}
}

func repeat(s string, lo, hi uint64, then ...api.Stmt) api.Stmt {
	return api.Stmt{Kind: api.SFor, Name: s, Lo: lo, Hi: hi, Then: then}
}

func release(s string) api.Stmt { return api.Stmt{Kind: api.SRelease, Name: s} }

// list: statements one behind the other, for the parts of an if.
func list(stmts ...api.Stmt) []api.Stmt { return stmts }

func single(kind int, s string) api.Decl { return api.Decl{Kind: kind, Name: s} }

func array(kind int, s string, size int) api.Decl { return api.Decl{Kind: kind, Name: s, Size: size} }

func table(s string, size int, values ...uint64) api.Decl {
	return api.Decl{Kind: api.DConst, Name: s, Size: size, Values: values}
}

// zeros: so many words.
func zeros(n int) []uint64 { return make([]uint64, n) }

// base: x is 0, a single; a is 1, an array; T is 2, a table; what stands in Body begins with the place 3.
func base(body ...api.Stmt) api.Program {
	return api.Program{Name: "p", Width: 16, Line: 1, Body: body,
		Decls: []api.Decl{single(api.DOut, "x"), array(api.DVar, "a", 2), table("T", 2, 1, 2)}}
}

// wide: the same, of another width.
func wide(width int, body ...api.Stmt) api.Program {
	p := base(body...)
	p.Width = width
	return p
}

// widths: those that a program may have.
func widths() []int { return []int{4, 8, 16, 32, 64} }

// otherKinds: the kinds of declarations without values.
func otherKinds() []int { return []int{api.DPublic, api.DSecret, api.DVar, api.DOut} }

// kidsOf: how many parts a kind of expression takes.
func kidsOf(kind int) int {
	switch kind {
	case api.ENum, api.EName:
		return 0
	case api.ELoad, api.ECom, api.ENeg:
		return 1
	case api.ESel:
		return 3
	}
	return 2
}

// around: an expression of a kind whose part of that number is another one, all others numbers.
func around(kind, part int, e api.Expr) api.Expr {
	out := api.Expr{Kind: kind}
	if kind == api.ELoad {
		out.Name = "T"
	}
	for i := range kidsOf(kind) {
		if i == part {
			out.Kids = append(out.Kids, e)
		} else {
			out.Kids = append(out.Kids, num(1))
		}
	}
	return out
}

// hosted: a program, and the place of what was put into it.
type hosted struct {
	what  string
	p     api.Program
	place int
}

// exprHosts: base with an expression at each kind of place where one stands.
func exprHosts(e api.Expr) []hosted {
	return []hosted{
		{"set", base(set("x", e)), 4},
		{"store at", base(store("a", e, num(1))), 4},
		{"store", base(store("a", num(1), e)), 5},
		{"if", base(branch(e, nil, nil)), 4},
		{"then", base(branch(num(1), list(release("x"), set("x", e)), nil)), 7},
		{"else", base(branch(num(1), list(release("x")), list(set("x", e)))), 7},
		{"for", base(repeat("i", 0, 2, release("x"), set("x", e))), 6},
		{"for in if in for", base(release("x"), repeat("i", 0, 2, branch(num(1), nil, list(repeat("j", 0, 1, branch(e, nil, nil)))))), 9},
		{"load", base(set("x", load("T", e))), 5},
		{"first part", base(set("x", of(api.EAdd, e, num(1)))), 5},
		{"second part", base(set("x", of(api.EMul, of(api.ENeg, num(1)), e))), 7},
		{"third part", base(set("x", of(api.ESel, num(1), load("a", num(0)), e))), 8},
		{"behind others", base(set("x", num(1)), store("a", num(0), num(1)), release("x"), set("x", e)), 10},
	}
}

// stmtHosts: base with a statement at each kind of place where one stands.
func stmtHosts(s api.Stmt) []hosted {
	return []hosted{
		{"body", base(s), 3},
		{"behind others", base(release("x"), set("x", num(1)), s, release("x")), 6},
		{"then", base(branch(num(1), list(release("x"), s), nil)), 6},
		{"else", base(branch(num(1), list(release("x")), list(s, release("x")))), 6},
		{"for", base(repeat("i", 0, 2, s)), 4},
		{"for in if in for", base(repeat("i", 0, 2, branch(num(1), nil, list(repeat("j", 0, 1, release("x"), s))))), 8},
	}
}

// Copies with nothing shared.

func copyExpr(e api.Expr) api.Expr {
	e.Kids = slices.Clone(e.Kids)
	for i := range e.Kids {
		e.Kids[i] = copyExpr(e.Kids[i])
	}
	return e
}

func copyStmts(list []api.Stmt) []api.Stmt {
	list = slices.Clone(list)
	for i := range list {
		s := &list[i]
		s.At, s.E, s.Then, s.Else = copyExpr(s.At), copyExpr(s.E), copyStmts(s.Then), copyStmts(s.Else)
	}
	return list
}

func copyProgram(p api.Program) api.Program {
	p.Decls = slices.Clone(p.Decls)
	for i := range p.Decls {
		p.Decls[i].Values = slices.Clone(p.Decls[i].Values)
	}
	p.Body = copyStmts(p.Body)
	return p
}
