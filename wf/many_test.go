package wf

import (
	"fmt"
	"math"
	"strings"
	"testing"

	"cadence/api"
)

// maker makes programs that are right, or nearly so: each choice goes wrong now and then.
type maker struct {
	*picker
	p     api.Program
	wrong int // one of so many choices goes wrong; 0: none
	part  int // where alone; 0: everywhere
	loops []string
	next  int
}

// The parts of a program that go wrong.
const (
	inWhole = 1 + iota
	inDecls
	inNumbers
	inNames
	inLoops
	parts
)

func (m *maker) errs(part int) bool {
	return m.wrong > 0 && (m.part == 0 || m.part == part) && m.below(m.wrong) == 0
}

// word: a number that the width holds.
func (m *maker) word() uint64 {
	top := uint64(math.MaxUint64) >> (64 - m.p.Width%65)
	if m.errs(inNumbers) {
		return pickOf(m.picker, top+1, math.MaxUint64, m.next64())
	}
	return pickOf(m.picker, 0, 1, 2, 7, top, m.next64()&top)
}

func (m *maker) next64() uint64 { return m.picker.next() }

// named: the name of a declaration with that size of a kind, or of a loop; often of another one, if it goes wrong.
func (m *maker) named(takes int) string {
	if m.errs(inNames) {
		return pickOf(m.picker, "x", "a", "T", "i1", "i2", "no", "s")
	}
	switch {
	case takes&aLoop != 0 && len(m.loops) > 0 && m.below(2) == 0:
		return pickOf(m.picker, m.loops...)
	case takes&aSingle != 0:
		return pickOf(m.picker, "x", "s", "n")
	case takes&aTable != 0:
		return pickOf(m.picker, "T", "a", "b")
	}
	return pickOf(m.picker, "a", "b")
}

func (m *maker) expr(depth int) api.Expr {
	kind := 1 + m.below(api.ELast)
	if depth <= 1 {
		kind = 1 + m.below(2)
	}
	e := api.Expr{Kind: kind}
	switch kind {
	case api.ENum:
		e.Num = m.word()
	case api.EName:
		e.Name = m.named(aLoop | aSingle)
	case api.ELoad:
		e.Name = m.named(anArray | aTable)
	}
	for range kidsOf(kind) {
		e.Kids = append(e.Kids, m.expr(depth-1-m.below(2)))
	}
	return e
}

func (m *maker) stmts(depth int) []api.Stmt {
	var out []api.Stmt
	for range m.below(4) {
		out = append(out, m.stmt(depth))
	}
	return out
}

func (m *maker) stmt(depth int) api.Stmt {
	kind := pickOf(m.picker, api.SSet, api.SStore, api.SIf, api.SFor, api.SFor, api.SRelease)
	if depth <= 1 {
		kind = pickOf(m.picker, api.SSet, api.SStore, api.SRelease)
	}
	switch kind {
	case api.SSet:
		return set(m.named(aSingle), m.expr(4))
	case api.SStore:
		return store(m.named(anArray), m.expr(3), m.expr(3))
	case api.SIf:
		return branch(m.expr(3), m.stmts(depth-1), m.stmts(depth-1))
	case api.SFor:
		return m.loop(depth)
	}
	return release(m.named(aSingle))
}

func (m *maker) loop(depth int) api.Stmt {
	m.next++
	s := repeat(fmt.Sprint("i", m.next%5+5*len(m.loops)), 0, pickOf(m.picker, 16, uint64(m.below(5))))
	s.Lo = uint64(m.below(int(s.Hi) + 1))
	if m.errs(inLoops) {
		s.Name = pickOf(m.picker, "x", "T", "i1", "i2", "new")
	}
	if m.errs(inLoops) {
		s.Lo, s.Hi = pickOf[uint64](m.picker, 0, 1, 17), pickOf[uint64](m.picker, 0, 16, 17, 1<<32, math.MaxUint64)
	}
	m.loops = append(m.loops, s.Name)
	s.Then = m.stmts(depth - 1)
	m.loops = m.loops[:len(m.loops)-1]
	return s
}

func (m *maker) decl(s string, size int) api.Decl {
	if m.errs(inDecls) {
		s = pickOf(m.picker, "x", "a", "b", "T", "new")
	}
	if m.errs(inDecls) {
		size = pickOf(m.picker, 0, 1, 3, 256, 257, 512)
	}
	return array(pickOf(m.picker, otherKinds()...), s, size)
}

// program: x, s, n singles, a, b arrays, T a table, in any order.
func (m *maker) program() api.Program {
	m.p = api.Program{Name: pickOf(m.picker, "p", "x", "i1"), Width: pickOf(m.picker, widths()...), Line: pickOf(m.picker, 1, 2, 64, 256)}
	m.loops, m.next = nil, 0
	if m.errs(inWhole) {
		m.p.Width = pickOf(m.picker, 0, 5, 128)
	}
	if m.errs(inWhole) {
		m.p.Line = pickOf(m.picker, 0, 3, 512)
	}
	t := table("T", 4, m.word(), m.word(), m.word(), m.word())
	if m.errs(inDecls) {
		t.Values = t.Values[:1+m.below(3)]
	}
	decls := []api.Decl{m.decl("x", 0), m.decl("s", 0), m.decl("n", 0), m.decl("a", pickOf(m.picker, 1, 2, 8, 256)), m.decl("b", 16), t}
	for len(decls) > 0 {
		i := m.below(len(decls))
		m.p.Decls = append(m.p.Decls, decls[i])
		decls = append(decls[:i], decls[i+1:]...)
	}
	m.p.Body = append(m.stmts(6), m.stmt(6))
	return m.p
}

// heldPlainly: each call answers what the plain reading says.
func heldPlainly(t *testing.T, p api.Program) fault {
	t.Helper()
	spots := spotsOf(p)
	want := plainFault(p, spots)
	faultIs(t, "plainly", p, want)
	if want.code == api.OK {
		size, e := Size(p)
		is(t, "the size", []any{size, e}, []any{plainSize(p.Body), api.OK})
	}
	is(t, "things", thingsOf(t, p), len(spots))
	for place := 0; place < len(spots); place += 1 + len(spots)/50 { // of great programs not each
		is(t, fmt.Sprint("names at ", place), namesAt(t, p, place), strings.Join(plainNames(p, spots, place), " "))
	}
	for _, place := range append(nowhere(), len(spots)) {
		noNames(t, p, place)
	}
	return want
}

// TestMany: programs that are right, and programs that go wrong here and there, against the plain reading (F16.1 to F16.3, P1601).
func TestMany(t *testing.T) {
	k := picker(161)
	counts := map[int]int{}
	for i := range 4000 {
		m := maker{picker: &k, wrong: []int{0, 8, 40, 150}[i%4], part: k.below(parts)}
		p := m.program()
		got := heldPlainly(t, p)
		counts[got.number]++
		if m.wrong == 0 && got.number != 0 && got.number != 16 {
			t.Fatalf("made right, and is %v:\n%s", got, shown(p))
		}
	}
	for _, number := range []int{0, 2, 3, 5, 6, 7, 8, 11, 12, 13, 14, 15, 16} {
		if counts[number] < 10 {
			t.Fatal("too few: ", counts)
		}
	}
}

// TestManyDeep: deep trees, against the plain reading.
func TestManyDeep(t *testing.T) {
	k := picker(162)
	counts := map[int]int{}
	for range 300 {
		m := maker{picker: &k}
		p := m.program()
		s := set("x", tower(55+k.below(13), api.ELoad+k.below(24), 0))
		deeper := nested(55+k.below(13), k.below(4), s)
		at := k.below(len(p.Body) + 1)
		p.Body = append(p.Body[:at:at], append(list(deeper), p.Body[at:]...)...)
		counts[heldPlainly(t, p).number]++
	}
	if counts[10] < 50 || counts[0] < 20 {
		t.Fatal("too few: ", counts)
	}
}
