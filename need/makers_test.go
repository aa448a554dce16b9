package need

import (
	"fmt"
	"strings"
	"testing"

	"cadence/api"
	"cadence/flat"
	"cadence/wf"
)

// textMaker makes texts of programs: x, s, n, v are singles, a, b arrays, T, U tables.
type textMaker struct {
	*picker
	loops []string
}

func (m *textMaker) pick(list ...string) string { return pickOf(m.picker, list...) }

func (m *textMaker) single() string { return m.pick("x", "s", "n", "v") }

func (m *textMaker) leaf() string {
	if len(m.loops) > 0 && m.below(3) == 0 {
		return m.pick(m.loops...)
	}
	return m.pick(m.single(), m.single(), fmt.Sprint(m.below(16)))
}

func (m *textMaker) expr(depth int) string {
	if depth <= 1 || m.below(6) == 0 {
		return m.leaf()
	}
	part := func() string { return "(" + m.expr(depth-1-m.below(2)) + ")" }
	switch m.below(9) {
	case 0:
		return m.pick("a", "b", "T", "U") + "[" + part() + "]"
	case 1:
		return m.pick("~", "-") + part()
	case 2:
		return "sel(" + part() + ", " + part() + ", " + part() + ")"
	case 3:
		return m.pick("sar(", "slt(") + part() + ", " + part() + ")"
	}
	signs := strings.Fields("* / % + - << >> <<< >>> & ^ | == != < <= > >=")
	return part() + " " + m.pick(signs...) + " " + part()
}

func (m *textMaker) stmts(depth int) string {
	text := ""
	for range m.below(4) {
		text += m.stmt(depth)
	}
	return text
}

func (m *textMaker) stmt(depth int) string {
	kind := m.below(7)
	if depth <= 1 {
		kind %= 3
	}
	switch kind {
	case 1:
		return fmt.Sprintf("%s[%s] = %s; ", m.pick("a", "b"), m.expr(2), m.expr(3))
	case 2:
		return fmt.Sprintf("release %s; ", m.single())
	case 3, 4:
		return fmt.Sprintf("if %s { %s} else { %s} ", m.expr(2), m.stmts(depth-1), m.stmts(depth-1))
	case 5:
		name := fmt.Sprint("i", len(m.loops))
		m.loops = append(m.loops, name)
		text := fmt.Sprintf("for %s %d %d { %s} ", name, 1, 1+pickOf(m.picker, 0, 1, 2, 5, 14), m.stmts(depth-1))
		m.loops = m.loops[:len(m.loops)-1]
		return text
	}
	return fmt.Sprintf("%s = %s; ", m.single(), m.expr(4))
}

// head: width, line and declarations.
func (m *textMaker) head() string {
	text := fmt.Sprintf("width %d; line %d; ", pickOf(m.picker, widths()...), pickOf(m.picker, 1, 2, 256))
	kinds := []string{"public ", "secret ", "var ", "out "}
	if m.below(4) == 0 {
		kinds = kinds[m.below(3):]
	}
	size := func() int { return pickOf(m.picker, 1, 2, 4, 8, 32, 128, 256) }
	for _, name := range []string{"x", "s", "n", "v"} {
		text += m.pick(kinds...) + name + "; "
	}
	for _, name := range []string{"a", "b"} {
		text += fmt.Sprintf("%s%s[%d]; ", m.pick(kinds...), name, size())
	}
	for _, name := range []string{"T", "U"} {
		n := size()
		text += fmt.Sprintf("const %s[%d] = 1%s; ", name, n, strings.Repeat(", 2", n-1))
	}
	return text
}

// rightProgram: any program that is right.
func rightProgram(t testing.TB, k *picker) api.Program {
	t.Helper()
	m := textMaker{picker: k}
	for range 100 {
		p := parsed(t, m.head()+"begin "+m.stmt(5)+m.stmts(5)+m.stmts(5)+"end")
		switch e := wf.Check(p); e {
		case api.OK:
			return p
		case api.ErrUnrolled:
		default:
			t.Fatalf("made right, and is %d: %+v", e, p)
		}
	}
	t.Fatal("no right program")
	return api.Program{}
}

// flatMaker makes flat code that no program becomes.
type flatMaker struct {
	*picker
	f api.Flat
}

// anyFlat: any flat code that may be.
func anyFlat(t testing.TB, k *picker) api.Flat {
	t.Helper()
	text := textMaker{picker: k}
	p := parsed(t, text.head()+"begin end")
	m := flatMaker{k, api.Flat{Width: p.Width, Line: p.Line, Decls: p.Decls, Temps: 4 + k.below(8)}}
	m.f.Code = m.block(k.below(5), 6)
	if !flat.May(m.f) {
		t.Fatalf("made so that it may be: %s", shown(m.f))
	}
	return m.f
}

func (m *flatMaker) arg() api.Arg {
	if m.below(3) == 0 {
		return number(uint64(m.below(16)))
	}
	return api.Arg{Temp: m.below(m.f.Temps)}
}

func (m *flatMaker) block(depth, most int) []api.Ins {
	var list []api.Ins
	for range m.below(most) {
		list = append(list, m.ins(depth, most))
	}
	return list
}

func (m *flatMaker) ins(depth, most int) api.Ins {
	if depth > 0 && m.below(3) == 0 {
		return api.Ins{Op: api.FIf, A: m.arg(), Then: m.block(depth-1, most-1), Else: m.block(depth-1, most-1)}
	}
	switch m.below(6) {
	case 0:
		return api.Ins{Op: api.FLoad, Dst: m.below(m.f.Temps), A: m.arg(), Array: 4 + m.below(4)}
	case 1:
		return api.Ins{Op: api.FStore, A: m.arg(), B: m.arg(), Array: 4 + m.below(2)}
	case 2:
		return api.Ins{Op: pickOf(m.picker, api.EDiv, api.ERem), Dst: m.below(m.f.Temps), A: m.arg(), B: m.arg()}
	}
	x := api.Ins{Op: pickOf(m.picker, quietOps()...), A: m.arg()}
	if x.Op != api.FRelease {
		x.Dst = m.below(m.f.Temps)
	}
	if x.Op >= api.EMul && x.Op <= api.ESel {
		x.B = m.arg()
	}
	if x.Op == api.ESel {
		x.C = m.arg()
	}
	return x
}
