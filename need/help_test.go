package need

import (
	"fmt"
	"slices"
	"strings"
	"testing"

	"cadence/api"
	"cadence/flat"
	"cadence/lang"
)

// picker tells numbers that look like chance, the same ones in each run.
type picker uint64

func (p *picker) next() uint64 {
	*p ^= *p << 13
	*p ^= *p >> 7
	*p ^= *p << 17
	return uint64(*p)
}

func (p *picker) below(n int) int { return int(p.next() >> 11 % uint64(n)) }

func pickOf[T any](p *picker, list ...T) T { return list[p.below(len(list))] }

// is: what was answered is what the chapter says.
func is(t testing.TB, what string, got, want any) {
	t.Helper()
	if fmt.Sprint(got) != fmt.Sprint(want) {
		t.Fatalf("%s: %v, not %v", what, got, want)
	}
}

// cut: a text that may be too long to be told.
func cut(s string) string {
	if len(s) > 3000 {
		return s[:2000] + " .. " + s[len(s)-1000:]
	}
	return s
}

// shown: flat code with its declarations.
func shown(f api.Flat) string {
	s, e := flat.Text(f)
	if e != api.OK {
		s = fmt.Sprintf("%+v", f.Code)
	}
	return cut(fmt.Sprintf("width %d, line %d, %+v, %d temps:\n%s", f.Width, f.Line, f.Decls, f.Temps, s))
}

// told: a need out of its six numbers, in the order of its fields: Paths, Terms, Queries, Clauses, Decisions, Room.
func told(text string) api.Need {
	n := strings.Fields(text)
	return api.Need{Paths: n[0], Terms: n[1], Queries: n[2], Clauses: n[3], Decisions: n[4], Room: n[5]}
}

// needIs: a need is another, in all its numbers.
func needIs(t testing.TB, what string, got, want api.Need) {
	t.Helper()
	if got != want {
		t.Fatalf("%s: %s\nnot %s", cut(what), cut(fmt.Sprintf("%+v", got)), cut(fmt.Sprintf("%+v", want)))
	}
}

// parsed: the program of a text, without the words that all texts begin with.
func parsed(t testing.TB, text string) api.Program {
	t.Helper()
	p, line, e := lang.Parse("program p; " + text)
	if e != api.OK {
		t.Fatalf("%s: %d in line %d", cut(text), e, line)
	}
	return p
}

// made: the flat code of a right program.
func made(t testing.TB, p api.Program) api.Flat {
	t.Helper()
	f, e := flat.Make(p)
	if e != api.OK {
		t.Fatalf("not made: %d, of %+v", e, p)
	}
	return f
}

// codeNeed: what Code answers of flat code that may be.
func codeNeed(t testing.TB, f api.Flat) api.Need {
	t.Helper()
	n, e := Code(f)
	if e != api.OK {
		t.Fatalf("no need: %d, of %s", e, shown(f))
	}
	return n
}

// textNeed: what Of answers of a text's program.
func textNeed(t testing.TB, text string) api.Need {
	t.Helper()
	n, e := Of(parsed(t, text))
	if e != api.OK {
		t.Fatalf("no need: %d, of %s", e, cut(text))
	}
	return n
}

// textIs: the need of a text's program, by Of, and by Code of what it becomes.
func textIs(t testing.TB, text, want string) {
	t.Helper()
	needIs(t, text, textNeed(t, text), told(want))
	needIs(t, "Code of "+text, codeNeed(t, made(t, parsed(t, text))), told(want))
}

// widths: those that a program may have.
func widths() []int { return []int{4, 8, 16, 32, 64} }

// base: code with three input words (k is secret, n public), and with arrays of unlike sizes; those from 3 on. Temp 0 is k, so that an instruction without further arguments may be.
func base(width int, code ...api.Ins) api.Flat {
	f := api.Flat{Width: width, Line: 1, Temps: 3, Code: code}
	for i, name := range []string{"k", "n", "x"} {
		f.Decls = append(f.Decls, api.Decl{Kind: []int{api.DSecret, api.DPublic, api.DOut}[i], Name: name})
	}
	for _, size := range sizes() {
		f.Decls = append(f.Decls, api.Decl{Kind: api.DVar, Name: fmt.Sprint("a", size), Size: size})
	}
	for _, size := range sizes() {
		f.Decls = append(f.Decls, api.Decl{Kind: api.DConst, Name: fmt.Sprint("T", size), Size: size, Values: make([]uint64, size)})
	}
	return f
}

// sizes: those that an array may have.
func sizes() []int { return []int{1, 2, 4, 8, 16, 32, 64, 128, 256} }

// array, table: the declaration of base with that size.
func array(size int) int { return 3 + slices.Index(sizes(), size) }

func table(size int) int { return array(size) + len(sizes()) }

// ins: an instruction, its temps all 0.
func ins(op int) api.Ins { return api.Ins{Op: op} }

func load(array int) api.Ins { return api.Ins{Op: api.FLoad, Array: array} }

func store(array int) api.Ins { return api.Ins{Op: api.FStore, Array: array} }

// branch: an if with both parts.
func branch(then, otherwise []api.Ins) api.Ins {
	return api.Ins{Op: api.FIf, Then: then, Else: otherwise}
}

// list: instructions one behind the other, for the parts of an if.
func list(code ...api.Ins) []api.Ins { return code }

// number: the argument that is a number.
func number(n uint64) api.Arg { return api.Arg{Temp: -1, Num: n} }

// codeIs: the need of code, at the width 4, with the declarations of base.
func codeIs(t testing.TB, what, want string, code ...api.Ins) {
	t.Helper()
	needIs(t, what, codeNeed(t, base(4, code...)), told(want))
}

// quietOps: the operations that have no array and no part, and are no query.
func quietOps() []int {
	ops := []int{api.FCopy, api.FRelease}
	for op := api.ECom; op <= api.ESel; op++ {
		if op != api.EDiv && op != api.ERem {
			ops = append(ops, op)
		}
	}
	return ops
}
