package run

import (
	"fmt"
	"slices"
	"strings"
	"testing"

	"cadence/api"
	"cadence/bits"
	"cadence/wf"
)

// maker makes texts of programs: x, s, n are singles, a, b arrays, T, U tables, in any order.
type maker struct {
	*picker
	quiet bool // without loads, stores, ifs, divisions and releases
	width int
	loops []string
}

func (m *maker) pick(list ...string) string { return pickOf(m.picker, list...) }

func (m *maker) number() string {
	n := uint64(m.below(6))
	if m.below(3) == 0 {
		n = pickOf(m.picker, edges(m.width)...)
	}
	return bits.Text(n)
}

// name: of a single, or of a loop.
func (m *maker) name() string {
	if len(m.loops) > 0 && m.below(2) == 0 {
		return m.pick(m.loops...)
	}
	return m.pick("x", "s", "n")
}

func (m *maker) expr(depth int) string {
	if depth <= 1 || m.below(6) == 0 {
		return m.pick(m.number(), m.name(), m.name())
	}
	part := func() string { return "(" + m.expr(depth-1-m.below(2)) + ")" }
	switch kind := m.below(26); {
	case kind < 4 && !m.quiet:
		return m.pick("a", "b", "T", "U") + "[" + part() + "]"
	case kind < 6:
		return m.pick("~", "-") + part()
	case kind < 8:
		return "sel(" + part() + ", " + part() + ", " + part() + ")"
	}
	kind := api.EMul + m.below(api.ESlt-api.EMul+1)
	for m.quiet && (kind == api.EDiv || kind == api.ERem) {
		kind = api.EMul + m.below(api.ESlt-api.EMul+1)
	}
	return joinedText(kind, part(), part())
}

func (m *maker) stmts(depth int) string {
	text := ""
	for range m.below(4) {
		text += m.stmt(depth)
	}
	return text
}

func (m *maker) stmt(depth int) string {
	kind := m.below(6)
	if m.quiet {
		kind = pickOf(m.picker, 0, 4)
	}
	if depth <= 1 {
		kind %= 3
		if m.quiet {
			kind = 0
		}
	}
	switch kind {
	case 1:
		return fmt.Sprintf("%s[%s] = %s; ", m.pick("a", "b"), m.expr(3), m.expr(4))
	case 2:
		return fmt.Sprintf("release %s; ", m.pick("x", "s", "n"))
	case 3:
		return fmt.Sprintf("if %s { %s} else { %s} ", m.expr(3), m.stmts(depth-1), m.stmts(depth-1))
	case 4:
		return m.loop(depth)
	}
	return fmt.Sprintf("%s = %s; ", m.pick("x", "s", "n"), m.expr(5))
}

func (m *maker) loop(depth int) string {
	lo, times := uint64(m.below(4)), uint64(m.below(5))
	if m.below(4) == 0 && m.width < 64 { // up to the greatest bound
		lo = top(m.width) + 1 - times
	}
	name := fmt.Sprintf("i%d", len(m.loops))
	m.loops = append(m.loops, name)
	text := fmt.Sprintf("for %s %d %d { %s} ", name, lo, lo+times, m.stmts(depth-1))
	m.loops = m.loops[:len(m.loops)-1]
	return text
}

func (m *maker) table(size int) string {
	list := make([]string, size)
	for i := range list {
		list[i] = m.number()
	}
	return fmt.Sprintf("[%d] = %s; ", size, strings.Join(list, ", "))
}

// program: its text.
func (m *maker) program() string {
	m.width = pickOf(m.picker, widths()...)
	kind := func() string { return m.pick("public ", "secret ", "secret ", "var ", "out ") }
	decls := []string{kind() + "x; ", kind() + "s; ", kind() + "n; "}
	for _, s := range []string{"a", "b"} {
		decls = append(decls, fmt.Sprintf("%s%s[%d]; ", kind(), s, pickOf(m.picker, 1, 2, 4, 16)))
	}
	decls = append(decls, "const T"+m.table(4), "const U"+m.table(pickOf(m.picker, 1, 2, 8)))
	text := fmt.Sprintf("width %d; line %d; ", m.width, pickOf(m.picker, 1, 1, 2, 4, 256))
	for len(decls) > 0 {
		i := m.below(len(decls))
		text += decls[i]
		decls = slices.Delete(decls, i, i+1)
	}
	return text + "begin " + m.stmt(5) + m.stmts(5) + "end"
}

// rightProgram: any program that is right.
func rightProgram(t testing.TB, k *picker, m maker) api.Program {
	t.Helper()
	m.picker = k
	for range 100 {
		p := parsed(t, m.program())
		switch e := wf.Check(p); e {
		case api.OK:
			return p
		case api.ErrUnrolled:
		default:
			t.Fatalf("made right, and is %d: %s", e, shown(p))
		}
	}
	t.Fatal("no right program")
	return api.Program{}
}

// anyInputs: so many words, the bits above the width too.
func anyInputs(k *picker, width, n int) []uint64 {
	var in []uint64
	for range n {
		word := pickOf(k, uint64(k.below(4)), pickOf(k, edges(width)...), k.next())
		if width < 64 && k.below(2) == 0 {
			word ^= k.next() << width
		}
		in = append(in, word)
	}
	return in
}

// otherSecrets: inputs with the same words at public positions (high bits may be unlike), and some others at secret ones.
func otherSecrets(k *picker, p api.Program, x []uint64) []uint64 {
	public, _ := Public(p)
	y := slices.Clone(x)
	for i, known := range public {
		switch {
		case !known && k.below(2) == 0:
			y[i] = anyInputs(k, p.Width, 1)[0]
		case p.Width < 64 && k.below(2) == 0:
			y[i] ^= k.next() << p.Width
		}
	}
	return y
}

// TestMany: many programs and inputs, against the plain reading and within the bounds (P1701, P1702, P1706).
func TestMany(t *testing.T) {
	k := picker(1706)
	events, longest := map[int]int{}, 0
	for range 2500 {
		p := rightProgram(t, &k, maker{})
		n := lengthOf(t, p)
		for range 3 {
			a := endOf(t, p, anyInputs(&k, p.Width, n))
			for _, e := range a.Trace {
				events[e.Kind]++
			}
			longest = max(longest, len(a.Trace))
		}
		runFails(t, p, make([]uint64, n+1), api.ErrLength)
	}
	for kind := api.EvBranch; kind <= api.EvRelease; kind++ {
		if events[kind] < 1000 || longest < 100 {
			t.Fatal("too few: ", events, longest)
		}
	}
}

// TestLowBits: what Run answers hangs on the lowest bits of the inputs alone (P1707).
func TestLowBits(t *testing.T) {
	k := picker(17071)
	for range 1000 {
		p := rightProgram(t, &k, maker{})
		x := anyInputs(&k, p.Width, lengthOf(t, p))
		want := endOf(t, p, x)
		for range 3 {
			y := slices.Clone(x)
			for i := range y {
				y[i] = y[i]&top(p.Width) | k.next()&^top(p.Width)
			}
			is(t, shown(p), endOf(t, p, y), want)
			leakIs(t, p, x, y, false, 0)
		}
	}
}

// TestQuiet: without loads, stores, ifs, divisions and releases nothing is seen (P1707).
func TestQuiet(t *testing.T) {
	k := picker(17072)
	done := 0
	for range 1000 {
		p := rightProgram(t, &k, maker{quiet: true})
		x := anyInputs(&k, p.Width, lengthOf(t, p))
		a := endOf(t, p, x)
		if len(a.Trace) != 0 {
			t.Fatalf("%s, of %s", toldTrace(a.Trace), shown(p))
		}
		leakIs(t, p, x, otherSecrets(&k, p, x), false, 0)
		if size, _ := wf.Size(p); size > 20 {
			done++
		}
	}
	if done < 300 {
		t.Fatal("too small: ", done)
	}
}
