package check

import (
	"fmt"
	"slices"
	"strings"
	"testing"

	"cadence/api"
	"cadence/wf"
)

// maker makes texts of programs: singles k, n, x, v, u, arrays a, b, tables T, U, in any order.
type maker struct {
	*picker
	small bool // of 4 bits, with few inputs
	wild  bool // what is seen is any expression; else mostly one that does not hang on secrets, or seems to alone
	width int
	loops []string
}

func (m *maker) pick(list ...string) string { return pick(m.picker, list...) }

func (m *maker) single() string { return m.pick("k", "n", "x", "v", "u") }

func (m *maker) leaf() string {
	if len(m.loops) > 0 && m.below(3) == 0 {
		return m.pick(m.loops...)
	}
	return m.pick(m.single(), m.single(), fmt.Sprint(m.below(16)))
}

func (m *maker) expr(depth int) string {
	if depth <= 1 || m.below(5) == 0 {
		return m.leaf()
	}
	part := func() string { return "(" + m.expr(depth-1-m.below(2)) + ")" }
	switch m.below(12) {
	case 0, 1:
		return m.pick("a", "b", "T", "U") + "[" + m.seen(depth-1) + "]"
	case 2:
		return m.pick("~", "-") + part()
	case 3:
		return "sel(" + part() + ", " + part() + ", " + part() + ")"
	case 4:
		return m.pick("sar(", "slt(") + part() + ", " + part() + ")"
	case 5:
		return "(" + m.seen(depth-1) + ") " + m.pick("/", "%") + " (" + m.seen(depth-1) + ")"
	}
	signs := strings.Fields("* + - << >> <<< >>> & ^ | == != < <= > >=")
	return part() + " " + m.pick(signs...) + " " + part()
}

// seen: an expression that an onlooker sees something of.
func (m *maker) seen(depth int) string {
	if m.wild || m.below(14) == 0 {
		return m.expr(depth)
	}
	s := m.single()
	return m.pick("n", "n", "u", "u", "n + u", "n < u", "~n", "n * n + u", fmt.Sprint(m.below(16)), m.leaf(), s+" - "+s, s+" | "+m.pick("15", "~0"), "n & 3",
		"("+s+" ^ n) ^ "+s, "sel("+s+", u, u)", "("+s+" * "+s+") & 2", "("+s+" + n) - ("+s+" - u)", s+" * ("+s+" + 1) & 1", "("+s+" & 3) < 4", "("+s+" | 1) > 0", "("+s+" & n) <= n")
}

func (m *maker) stmts(depth int) string {
	text := ""
	for range m.below(4) {
		text += m.stmt(depth)
	}
	return text
}

func (m *maker) stmt(depth int) string {
	kind := m.below(10)
	if depth <= 1 {
		kind %= 6
	}
	switch kind {
	case 0:
		return fmt.Sprintf("u = %s; ", m.seen(3))
	case 1:
		return fmt.Sprintf("%s[%s] = %s; ", m.pick("a", "b"), m.seen(3), m.expr(3))
	case 2:
		return fmt.Sprintf("v = %s; release v; %s", m.expr(3), m.pick("u = v; ", "u = v + n; ", "x = v; ", ""))
	case 3:
		if m.below(3) == 0 {
			return fmt.Sprintf("release %s; ", m.single())
		}
	case 6, 7, 8:
		return fmt.Sprintf("if %s { %s} else { %s} ", m.seen(3), m.stmts(depth-1), m.stmts(depth-1))
	case 9:
		return m.loop(depth)
	}
	to := m.pick("x", "x", "v", "v", "u", "k")
	if to == "u" {
		return fmt.Sprintf("u = %s; ", m.seen(3))
	}
	return fmt.Sprintf("%s = %s; ", to, m.expr(4))
}

func (m *maker) loop(depth int) string {
	name := fmt.Sprint("i", len(m.loops))
	m.loops = append(m.loops, name)
	text := fmt.Sprintf("for %s %d %d { %s} ", name, m.below(3), 3+m.below(3), m.stmts(depth-1))
	m.loops = m.loops[:len(m.loops)-1]
	return text
}

// program: its text; u begins as 0, n is public, or does; of a small one there are two secret words and one public one at the most.
func (m *maker) program() string {
	m.width = 4
	kind := func() string { return m.pick("var ", "out ") }
	sizes := []int{1, 2, 4}
	decls := []string{"secret k; ", m.pick("public n; ", "public n; ", "var n; ")}
	if !m.small {
		m.width = pick(m.picker, 4, 4, 4, 8, 8, 16, 64)
		kind = func() string { return m.pick("public ", "secret ", "secret ", "var ", "out ") }
		sizes = []int{1, 2, 4, 16}
	}
	for _, s := range []string{"x", "v"} {
		decls = append(decls, kind()+s+"; ")
	}
	if m.small && m.below(3) == 0 {
		decls[2] = "secret x; "
	}
	decls = append(decls, m.pick("var ", "out ")+"u; ")
	for _, s := range []string{"a", "b"} {
		decls = append(decls, fmt.Sprintf("%s%s[%d]; ", kind(), s, pick(m.picker, sizes...)))
	}
	for _, s := range []string{"T", "U"} {
		n := pick(m.picker, 1, 2, 4, 8)
		var words []string
		for range n {
			words = append(words, fmt.Sprint(m.below(16)))
		}
		decls = append(decls, fmt.Sprintf("const %s[%d] = %s; ", s, n, strings.Join(words, ", ")))
	}
	text := fmt.Sprintf("width %d; line %d; ", m.width, pick(m.picker, 1, 1, 1, 2, 4, 256))
	for len(decls) > 0 {
		i := m.below(len(decls))
		text += decls[i]
		decls = slices.Delete(decls, i, i+1)
	}
	return text + "begin " + m.stmt(4) + m.stmt(4) + m.stmts(4) + m.pick("", "", "", "if k { x = 1; } ", "x = U[k]; ", "b[k] = n; ", "x = k / n; ") + "end"
}

// rightProgram: any program that is right.
func rightProgram(t testing.TB, k *picker, m maker) api.Program {
	t.Helper()
	m.picker = k
	for range 100 {
		p := parsed(t, m.program())
		switch e := wf.Check(p); e {
		case api.OK:
			return p
		case api.ErrUnrolled:
		default:
			t.Fatalf("made right, and is %d: %s", e, shown(p))
		}
	}
	t.Fatal("no right program")
	return api.Program{}
}

// anyBudget: each counter without a bound, or with one that ordinary programs come near to.
func anyBudget(k *picker, most api.Budget) api.Budget {
	b := most
	for _, c := range fourCounters() {
		near := []int{api.CPaths: 9, api.CTerms: 300, api.CClauses: 3000, api.CDecisions: 300}[c]
		if k.below(3) == 0 {
			*counter(&b, c) = int64(k.below(near))
		}
		if k.below(40) == 0 {
			*counter(&b, c) = pick(k, int64(0), 1, 2)
		}
	}
	return b
}

// fair: bounds at which any program's check comes to an end soon.
func fair() api.Budget { return budget(60, 20000, 60000, 2000) }
