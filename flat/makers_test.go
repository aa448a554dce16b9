package flat

import (
	"fmt"
	"slices"
	"strings"
	"testing"

	"cadence/api"
	"cadence/bits"
	"cadence/wf"
)

// textMaker makes texts of programs: x, s, n, v are singles, a, b arrays, T, U tables, in any order.
type textMaker struct {
	*picker
	numbers bool // many numbers, so that much of it can be folded
	width   int
	loops   []string
}

func (m *textMaker) pick(list ...string) string { return pickOf(m.picker, list...) }

func (m *textMaker) number() string {
	n := uint64(m.below(6))
	if m.below(3) == 0 {
		n = pickOf(m.picker, edges(m.width)...)
	}
	return bits.Text(n)
}

func (m *textMaker) single() string { return m.pick("x", "s", "n", "v") }

// name: of a single, or of a loop.
func (m *textMaker) name() string {
	if len(m.loops) > 0 && m.below(2) == 0 {
		return m.pick(m.loops...)
	}
	return m.single()
}

func (m *textMaker) leaf() string {
	if m.numbers && m.below(2) == 0 {
		return m.number()
	}
	return m.pick(m.number(), m.name(), m.name())
}

func (m *textMaker) expr(depth int) string {
	if depth <= 1 || m.below(6) == 0 {
		return m.leaf()
	}
	part := func() string { return "(" + m.expr(depth-1-m.below(2)) + ")" }
	switch kind := m.below(26); {
	case kind < 3:
		return m.pick("a", "b", "T", "U") + "[" + part() + "]"
	case kind < 6:
		return m.pick("~", "-") + part()
	case kind < 8:
		return "sel(" + part() + ", " + part() + ", " + part() + ")"
	}
	return joinedText(api.EMul+m.below(api.ESlt-api.EMul+1), part(), part())
}

func (m *textMaker) stmts(depth int) string {
	text := ""
	for range m.below(4) {
		text += m.stmt(depth)
	}
	return text
}

func (m *textMaker) stmt(depth int) string {
	kind := m.below(6)
	if depth <= 1 {
		kind %= 3
	}
	switch kind {
	case 1:
		return fmt.Sprintf("%s[%s] = %s; ", m.pick("a", "b"), m.expr(3), m.expr(4))
	case 2:
		return fmt.Sprintf("release %s; ", m.single())
	case 3:
		return fmt.Sprintf("if %s { %s} else { %s} ", m.expr(3), m.stmts(depth-1), m.stmts(depth-1))
	case 4:
		return m.loop(depth)
	}
	return fmt.Sprintf("%s = %s; ", m.single(), m.expr(5))
}

func (m *textMaker) loop(depth int) string {
	lo, times := uint64(m.below(4)), uint64(m.below(5))
	if m.below(4) == 0 && m.width < 64 { // up to the greatest bound
		lo = top(m.width) + 1 - times
	}
	name := fmt.Sprintf("i%d", len(m.loops))
	m.loops = append(m.loops, name)
	text := fmt.Sprintf("for %s %d %d { %s} ", name, lo, lo+times, m.stmts(depth-1))
	m.loops = m.loops[:len(m.loops)-1]
	return text
}

func (m *textMaker) table(size int) string {
	list := make([]string, size)
	for i := range list {
		list[i] = m.number()
	}
	return fmt.Sprintf("[%d] = %s; ", size, strings.Join(list, ", "))
}

// head: width, line and declarations.
func (m *textMaker) head() string {
	m.width = pickOf(m.picker, widths()...)
	kind := func() string { return m.pick("public ", "secret ", "secret ", "var ", "out ", "out ") }
	var decls []string
	for _, s := range []string{"x", "s", "n", "v"} {
		decls = append(decls, kind()+s+"; ")
	}
	for _, s := range []string{"a", "b"} {
		decls = append(decls, fmt.Sprintf("%s%s[%d]; ", kind(), s, pickOf(m.picker, 1, 2, 4, 16)))
	}
	decls = append(decls, "const T"+m.table(4), "const U"+m.table(pickOf(m.picker, 1, 2, 8)))
	text := fmt.Sprintf("width %d; line %d; ", m.width, pickOf(m.picker, 1, 1, 2, 4, 256))
	for len(decls) > 0 {
		i := m.below(len(decls))
		text += decls[i]
		decls = slices.Delete(decls, i, i+1)
	}
	return text
}

// rightProgram: any program that is right.
func rightProgram(t testing.TB, k *picker) api.Program {
	t.Helper()
	m := textMaker{picker: k, numbers: k.below(2) == 0}
	for range 100 {
		p := parsed(t, m.head()+"begin "+m.stmt(5)+m.stmts(5)+"end")
		switch e := wf.Check(p); e {
		case api.OK:
			return p
		case api.ErrUnrolled:
		default:
			t.Fatalf("made right, and is %d: %s", e, shown(p))
		}
	}
	t.Fatal("no right program")
	return api.Program{}
}

// flatMaker makes flat code that no program becomes: any temps, in any order, are set and used, again and again.
type flatMaker struct {
	*picker
	f api.Flat
}

// anyFlat: any flat code that may be, with few temps.
func anyFlat(t testing.TB, k *picker) api.Flat {
	t.Helper()
	text := textMaker{picker: k}
	m := flatMaker{picker: k, f: bareFlat(t, text.head(), 4+k.below(8))}
	m.f.Code = m.block(4)
	if !May(m.f) || !plainMay(m.f) {
		t.Fatalf("made so that it may be: %s", shownFlat(m.f))
	}
	return m.f
}

func (m *flatMaker) arg() api.Arg {
	switch m.below(5) {
	case 0:
		return api.Arg{Temp: -1, Num: uint64(m.below(4))}
	case 1:
		return api.Arg{Temp: -1, Num: pickOf(m.picker, edges(m.f.Width)...)}
	}
	return api.Arg{Temp: m.below(m.f.Temps)}
}

func (m *flatMaker) array(op int) int {
	for {
		i := m.below(len(m.f.Decls))
		if d := m.f.Decls[i]; d.Size > 0 && (op == api.FLoad || d.Kind != api.DConst) {
			return i
		}
	}
}

func (m *flatMaker) block(depth int) []api.Ins {
	var list []api.Ins
	for range m.below(8) {
		list = append(list, m.ins(depth))
	}
	return list
}

func (m *flatMaker) ins(depth int) api.Ins {
	x := api.Ins{Op: pickOf(m.picker, api.FCopy, api.FCopy, api.FCopy, api.FLoad, api.FStore, api.FRelease, api.FIf, api.FIf, 0, 0, 0)}
	if x.Op == 0 || x.Op == api.FIf && depth == 0 {
		x.Op = api.ECom + m.below(api.ESel-api.ECom+1)
	}
	dst, _, array, parts, _ := plainFields(x.Op)
	for _, a := range plainArgs(&x) {
		*a = m.arg()
	}
	if dst {
		x.Dst = m.below(m.f.Temps)
	}
	if array {
		x.Array = m.array(x.Op)
	}
	if parts {
		x.Then, x.Else = m.block(depth-1), m.block(depth-1)
	}
	return x
}

// lengthOf: how many input words there are.
func lengthOf(decls []api.Decl) int {
	n := 0
	for _, d := range decls {
		if d.Kind == api.DPublic || d.Kind == api.DSecret {
			n += max(d.Size, 1)
		}
	}
	return n
}

// anyInputs: so many words, the bits above the width too.
func anyInputs(k *picker, width, n int) []uint64 {
	var in []uint64
	for range n {
		word := pickOf(k, uint64(k.below(4)), pickOf(k, edges(width)...), k.next())
		if width < 64 && k.below(2) == 0 {
			word ^= k.next() << width
		}
		in = append(in, word)
	}
	return in
}

// otherSecrets: inputs with the same words at public positions, and some others at secret ones.
func otherSecrets(k *picker, f api.Flat, x []uint64) []uint64 {
	y := slices.Clone(x)
	at := 0
	for _, d := range f.Decls {
		if d.Kind != api.DPublic && d.Kind != api.DSecret {
			continue
		}
		for range max(d.Size, 1) {
			if d.Kind == api.DSecret && k.below(2) == 0 {
				y[at] = anyInputs(k, f.Width, 1)[0]
			}
			at++
		}
	}
	return y
}

// outputsOf: of a state, the words of the declarations of the kind DOut.
func outputsOf(decls []api.Decl, state [][]uint64) [][]uint64 {
	var out [][]uint64
	at := 0
	for _, d := range decls {
		if d.Kind == api.DConst {
			continue
		}
		if d.Kind == api.DOut {
			out = append(out, state[at])
		}
		at++
	}
	return out
}
