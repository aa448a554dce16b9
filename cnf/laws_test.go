package cnf

import (
	"strconv"
	"strings"
	"testing"

	"cadence/api"
)

// P201
func TestNormLaws(t *testing.T) {
	p := picker(11)
	all := assignments(3, 1, -1, 0)
	for range 500 {
		c := p.clause(3, 6)
		set, both, e := Norm(c)
		if again, bothAgain, eAgain := Norm(set); !sameClause(again, set) || bothAgain != both || e != api.OK || eAgain != api.OK {
			t.Fatalf("Norm of Norm(%v) = %v is %v", c, set, again)
		}
		for _, m := range all {
			if Value(c, m) != Value(set, m) {
				t.Fatalf("Value(%v, %v) is not that of %v", c, m, set)
			}
		}
	}
}

// P202
func TestResolveLaw(t *testing.T) {
	p := picker(12)
	for range 500 {
		a, b, v := append(p.clause(4, 3), 2), append(p.clause(4, 3), -2), 2
		c, e := Resolve(a, b, v)
		if e != api.OK {
			t.Fatalf("Resolve(%v, %v, %d): error %d", a, b, v, e)
		}
		for _, m := range assignments(4, 1, -1, 0) {
			if m[v-1] != 0 && Value(a, m) == 1 && Value(b, m) == 1 && Value(c, m) != 1 {
				t.Fatalf("%v and %v are true by %v, Resolve's %v is not", a, b, m, c)
			}
		}
	}
}

// P203
func TestAssignLaw(t *testing.T) {
	p := picker(13)
	for range 500 {
		f, l := p.formula(3, 4, 4), p.literal(3)
		g, e := Assign(f, l)
		if e != api.OK {
			t.Fatalf("Assign(%v, %d): error %d", f, l, e)
		}
		for _, m := range assignments(3, 1, -1, 0) {
			x, _, _ := Under(f, m)
			if y, _, _ := Under(g, m); Of(m, l) == 1 && x != y {
				t.Fatalf("%v is %d by %v, with %d assigned %d", f, x, m, l, y)
			}
		}
	}
}

// P204
func TestTidyLaws(t *testing.T) {
	p := picker(14)
	for range 500 {
		f := p.formula(3, 6, 4)
		g, e := Tidy(f)
		if again, eAgain := Tidy(g); !sameFormula(again, g) || e != api.OK || eAgain != api.OK {
			t.Fatalf("Tidy of Tidy(%v) = %v is %v", f, g, again)
		}
		for _, m := range assignments(3, 1, -1) {
			x, _, _ := Under(f, m)
			if y, _, _ := Under(g, m); x != y {
				t.Fatalf("%v is %d by %v, its Tidy %d", f, x, m, y)
			}
		}
	}
}

// P205
func TestEliminateLaw(t *testing.T) {
	p := picker(15)
	for range 500 {
		f, v := p.formula(4, 8, 4), 1+p.below(4)
		g, e := Eliminate(f, v)
		if e != api.OK {
			t.Fatalf("Eliminate(%v, %d): error %d", f, v, e)
		}
		for _, m := range assignments(4, 1, -1) {
			is, _, _ := Under(g, m)
			some := false
			for _, x := range []int8{1, -1} {
				m[v-1] = x
				y, _, _ := Under(f, m)
				some = some || y == 1
			}
			if (is == 1) != some {
				t.Fatalf("Eliminate(%v, %d) = %v is %d by %v", f, v, g, is, m)
			}
		}
	}
}

// roughText: the formula's text with other blanks, lines and comments.
func roughText(p *picker, f api.Formula) string {
	var b strings.Builder
	gap := func() {
		for range 1 + p.below(3) {
			b.WriteByte(" \t\r"[p.below(3)])
		}
	}
	talk := func() {
		for range p.below(3) {
			b.WriteString([]string{"\n", " \t\r\n", "c\n", "c 1 0 p\n", "  c\tx\xff\n"}[p.below(5)])
		}
	}
	word := func(l int) {
		b.WriteString(strconv.Itoa(l))
		gap()
		if p.below(3) == 0 {
			b.WriteByte('\n')
			talk()
		}
	}
	talk()
	gap()
	for _, w := range []string{"p", "cnf", strconv.Itoa(f.Vars), strconv.Itoa(len(f.Clauses))} {
		b.WriteString(w)
		gap()
	}
	b.WriteByte('\n')
	talk()
	for _, c := range f.Clauses {
		for _, l := range c {
			word(l)
		}
		word(0)
	}
	return b.String()
}

// P206
func TestTextLaws(t *testing.T) {
	p := picker(16)
	for range 2000 {
		vars := p.below(5)
		if p.below(4) == 0 {
			vars = api.MaxVars
		}
		f := p.formula(vars, 6, 5)
		text, e := Print(f)
		if e != api.OK {
			t.Fatalf("Print(%v): error %d", f, e)
		}
		for _, s := range []string{text, strings.TrimSuffix(text, "\n"), roughText(&p, f)} {
			g, line, e := Parse(s)
			if !sameFormula(g, f) || line != 0 || e != api.OK {
				t.Fatalf("Parse(%q) = %v %d %d, not %v", s, g, line, e, f)
			}
			if again, e := Print(g); again != text || e != api.OK {
				t.Fatalf("Print(%v) = %q %d, not %q", g, again, e, text)
			}
		}
	}
}

// P206, where all limits are met.
func TestTextLawsLimits(t *testing.T) {
	var clauses []api.Clause
	for k := range 32 {
		clauses = append(clauses, span(1+k*16000, k*16000+api.MaxClause))
	}
	for _, f := range []api.Formula{formula(api.MaxVars, clauses...), formula(api.MaxVars, make([]api.Clause, api.MaxClauses)...), formula(1, full()...)} {
		text, e := Print(f)
		if e != api.OK {
			t.Fatalf("Print of a formula at the limits: %d", e)
		}
		if g, line, e := Parse(text); !sameFormula(g, f) || line != 0 || e != api.OK {
			t.Errorf("Parse of Print at the limits: %d %d", line, e)
		}
	}
}

// P207
func TestCountLaw(t *testing.T) {
	p := picker(17)
	for range 600 {
		vars := 1 + p.below(9)
		f, v := p.formula(vars, 8, 4), 1+p.below(vars)
		yes, _ := Assign(f, v)
		no, _ := Assign(f, -v)
		n, e := Count(f)
		a, eA := Count(yes)
		b, eB := Count(no)
		if 2*n != a+b || e != api.OK || eA != api.OK || eB != api.OK {
			t.Fatalf("Count(%v) = %d %d, with %d %d %d, without %d %d", f, n, e, v, a, eA, b, eB)
		}
	}
}

// P208
func TestSubsumesLaw(t *testing.T) {
	p := picker(18)
	met := 0
	for range 3000 {
		a, b := p.clause(3, 3), p.clause(3, 6)
		if !Subsumes(a, b) {
			continue
		}
		met++
		for _, m := range assignments(3, 1, -1, 0) {
			if Value(a, m) == 1 && Value(b, m) != 1 {
				t.Fatalf("%v subsumes %v, and is true by %v", a, b, m)
			}
		}
	}
	if met < 100 {
		t.Fatalf("just %d pairs of which one subsumes the other", met)
	}
}
