package symex

import (
	"fmt"
	"math"
	"strings"
	"testing"

	"cadence/api"
	"cadence/simp"
)

const (
	set0, not0 = "(not (eq i0 0))", "(eq i0 0)" // of the truth of i0
	set1, not1 = "(not (eq i1 0))", "(eq i1 0)"
)

// TestOneWay: code without an if that parts (F22.4).
func TestOneWay(t *testing.T) {
	for _, r := range []struct{ text, want string }{
		{"out x; begin end", "; ; (0)"},
		{"begin end", "; ; "},
		{"secret k; out x; begin x = k + 1; end", "; ; (i0) ((add i0 1))"},
		{"secret k; out x; begin x = k / 3; release x; end", "; divide i0 3, release (div i0 3); (i0) ((div i0 3))"},
		{"out x; begin if 1 { x = 3; } else { x = 4; } end", "; branch 1; (3)"},
		{"out x; begin if 0 { x = 3; } else { x = 4; } end", "; branch 0; (4)"},
		{"out x; begin if x { x = 3; } end", "; branch 0; (0)"},
		{"out x; begin if 200 { } end", "; branch 1; (0)"},
		{"secret k; out x; begin if k | 255 { x = k; } else { x = 1; } end", "; branch 1; (i0) (i0)"},
		{"secret k; out x; begin if k - k { x = k; } else { x = 1; } end", "; branch 0; (i0) (1)"},
		{"secret k; out x; begin x = (k < 3) | 1; if (k == k) { if x < 0 { x = 9; } else { x = 5; } release x; } end", "; branch 1, branch 0, release 5; (i0) (5)"},
		{"secret k; out x; begin for i 0 3 { if i == 1 { x = x + i; } else { x = x + k; } } end", "; branch 0, branch 1, branch 0; (i0) ((add (add i0 1) i0))"},
	} {
		begin(t, program(t, "width 8; "+r.text)).waysAre(1, false, r.want)
		begin(t, program(t, "width 8; "+r.text)).waysAre(2, false, r.want)
	}
}

// TestTwoWays: an if that parts: conditions, events, words; parts that are empty (F22.4).
func TestTwoWays(t *testing.T) {
	for _, r := range []struct{ text, then, otherwise string }{
		{"if k { x = 1; } else { x = 2; }", set0 + "; branch 1; (i0) (i1) (1)", not0 + "; branch 0; (i0) (i1) (2)"},
		{"if k { x = 1; }", set0 + "; branch 1; (i0) (i1) (1)", not0 + "; branch 0; (i0) (i1) (0)"},
		{"if k { } else { x = n; }", set0 + "; branch 1; (i0) (i1) (0)", not0 + "; branch 0; (i0) (i1) (i1)"},
		{"if k { } else { }", set0 + "; branch 1; (i0) (i1) (0)", not0 + "; branch 0; (i0) (i1) (0)"},
		{"if k < n { x = 1; }", "(ult i0 i1); branch 1; (i0) (i1) (1)", "(not (ult i0 i1)); branch 0; (i0) (i1) (0)"},
		{"if k >= n { x = 1; }", "(not (ult i0 i1)); branch 1; (i0) (i1) (1)", "(ult i0 i1); branch 0; (i0) (i1) (0)"},
		{"x = 7; if k == n { x = x + k; release x; } release k;", "(eq i0 i1); branch 1, release (add i0 7), release i0; (i0) (i1) ((add i0 7))", "(not (eq i0 i1)); branch 0, release i0; (i0) (i1) (7)"},
		{"if k / n { x = 1; } x = x - 1;", "(not (eq (div i0 i1) 0)); divide i0 i1, branch 1; (i0) (i1) (0)", "(eq (div i0 i1) 0); divide i0 i1, branch 0; (i0) (i1) (255)"},
	} {
		b := begin(t, program(t, "width 8; secret k; public n; out x; begin "+r.text+" end"))
		b.waysAre(1, true, r.then)
		b.waysAre(2, false, r.then, r.otherwise)
		b.waysAre(3, false, r.then, r.otherwise)
		b.waysAre(math.MaxInt, false, r.then, r.otherwise)
	}
}

// TestOrder: ifs behind ifs and within ifs: all that go Then ahead of those that go Else, at the first if at which they part; whether there are more (F22.4).
func TestOrder(t *testing.T) {
	for _, r := range []struct {
		text string
		want []string // conditions; branches
	}{
		{"if k { x = 1; } if n { x = 2; }", []string{
			set0 + ", " + set1 + "; 1 1", set0 + ", " + not1 + "; 1 0", not0 + ", " + set1 + "; 0 1", not0 + ", " + not1 + "; 0 0"}},
		{"if k { if n { x = 1; } }", []string{set0 + ", " + set1 + "; 1 1", set0 + ", " + not1 + "; 1 0", not0 + "; 0"}},
		{"if k { x = 1; } else { if n { x = 1; } }", []string{set0 + "; 1", not0 + ", " + set1 + "; 0 1", not0 + ", " + not1 + "; 0 0"}},
		{"if k { if n { } } else { if n == 3 { } }", []string{
			set0 + ", " + set1 + "; 1 1", set0 + ", " + not1 + "; 1 0", not0 + ", (eq i1 3); 0 1", not0 + ", (not (eq i1 3)); 0 0"}},
		{"if k { if n { } } if n == 3 { }", []string{
			set0 + ", " + set1 + ", (eq i1 3); 1 1 1", set0 + ", " + set1 + ", (not (eq i1 3)); 1 1 0",
			set0 + ", " + not1 + ", (eq i1 3); 1 0 1", set0 + ", " + not1 + ", (not (eq i1 3)); 1 0 0",
			not0 + ", (eq i1 3); 0 1", not0 + ", (not (eq i1 3)); 0 0"}},
		// That a condition was met already is not looked at.
		{"if k { } if k { }", []string{set0 + ", " + set0 + "; 1 1", set0 + ", " + not0 + "; 1 0", not0 + ", " + set0 + "; 0 1", not0 + ", " + not0 + "; 0 0"}},
		{"if k { if k { } else { x = 1; } }", []string{set0 + ", " + set0 + "; 1 1", set0 + ", " + not0 + "; 1 0", not0 + "; 0"}},
		// What parts in the one part alone.
		{"if k { x = 1; } else { x = n; } if x { }", []string{set0 + "; 1 1", not0 + ", " + set1 + "; 0 1", not0 + ", " + not1 + "; 0 0"}},
		{"if k { x = n; } else { x = 0; } if x { if 1 { } } else { if 0 { } }", []string{set0 + ", " + set1 + "; 1 1 1", set0 + ", " + not1 + "; 1 0 0", not0 + "; 0 0 0"}},
		{"for i 0 3 { if k == i { } }", []string{
			"(eq i0 0), (eq i0 1), (eq i0 2); 1 1 1", "(eq i0 0), (eq i0 1), (not (eq i0 2)); 1 1 0",
			"(eq i0 0), (not (eq i0 1)), (eq i0 2); 1 0 1", "(eq i0 0), (not (eq i0 1)), (not (eq i0 2)); 1 0 0",
			"(not (eq i0 0)), (eq i0 1), (eq i0 2); 0 1 1", "(not (eq i0 0)), (eq i0 1), (not (eq i0 2)); 0 1 0",
			"(not (eq i0 0)), (not (eq i0 1)), (eq i0 2); 0 0 1", "(not (eq i0 0)), (not (eq i0 1)), (not (eq i0 2)); 0 0 0"}},
	} {
		b := begin(t, program(t, "width 8; secret k; public n; out x; begin "+r.text+" end"))
		for most := 1; most <= len(r.want)+1; most++ {
			l, more := b.paths(most)
			is(t, fmt.Sprint(r.text, ": more than ", most), more, most < len(r.want))
			is(t, fmt.Sprint(r.text, ": how many of ", most), len(l), min(most, len(r.want)))
			for i, p := range l {
				is(t, fmt.Sprint(r.text, ": the way ", i), b.shows(p.Conds)+"; "+branches(p), r.want[i])
			}
		}
	}
}

// branches: those of a way.
func branches(p Path) string {
	var all []string
	for _, e := range p.Events {
		if e.Kind == api.EvBranch {
			all = append(all, fmt.Sprint(e.N))
		}
	}
	return strings.Join(all, " ")
}

// TestElseFromThere: what Then turned is as it was ahead of it where Else is gone: temps, words, arrays (F22.4).
func TestElseFromThere(t *testing.T) {
	const ahead = "a[0] = 5; a[n] = 6; x = k; v = 3; "
	b := begin(t, program(t, "width 4; secret k; public n; out x; var v; secret b[2]; var a[2]; begin "+ahead+
		"if k { x = x + 1; v = a[1]; a[1] = 9; b[k] = x; b[0] = 1; if n { a[k] = 2; a[0] = v; v = 1; } a[1] = x; x = v; } else { v = v + a[0]; } b[1] = v; x = x + v; end"))
	const (
		hit0, hit1 = "(ite (eq (slice i1 0 1) 0:1) 6 5)", "(ite (eq (slice i1 0 1) 1:1) 6 0)"
		b0, b1     = "(ite (eq (slice i0 0 1) 0:1) (add i0 1) i2)", "(ite (eq (slice i0 0 1) 1:1) (add i0 1) i3)"
		stores     = "store 5 0, store 5 (zext (slice i1 0 1) 4), "
	)
	then := stores + "branch 1, load 5 1, store 5 1, store 4 (zext (slice i0 0 1) 4), store 4 0, "
	b.waysAre(9, false,
		set0+", "+set1+"; "+then+"branch 1, store 5 (zext (slice i0 0 1) 4), store 5 0, store 5 1, store 4 1; (i0) (i1) (2) (1) (1 1) ("+hit1+" (add i0 1))",
		set0+", "+not1+"; "+then+"branch 0, store 5 1, store 4 1; (i0) (i1) ((add "+hit1+" "+hit1+")) ("+hit1+") (1 "+hit1+") ("+hit0+" (add i0 1))",
		not0+"; "+stores+"branch 0, load 5 0, store 4 1; (i0) (i1) ((add i0 (add "+hit0+" 3))) ((add "+hit0+" 3)) (i2 (add "+hit0+" 3)) ("+hit0+" "+hit1+")")
}

// TestTempsThere: temps that no declaration has are as they were, too (F22.4).
func TestTempsThere(t *testing.T) {
	b := begin(t, code(t, "width 8; secret k; out x;", 4,
		ins(api.FCopy, 2, number(5)),
		branch(temp(0), list(ins(api.FCopy, 2, number(6)), ins(api.EDiv, 3, temp(0), temp(2)), branch(temp(3), list(ins(api.FCopy, 3, number(1))), nil)), list(release(temp(3)))),
		ins(api.EAdd, 1, temp(2), temp(3))))
	b.waysAre(9, false,
		set0+", (not (eq (div i0 6) 0)); branch 1, divide i0 6, branch 1; (i0) (7)",
		set0+", (eq (div i0 6) 0); branch 1, divide i0 6, branch 0; (i0) ((add (div i0 6) 6))",
		not0+"; branch 0, release 0; (i0) (5)")
}

// TestMostRefused: a most below 1 (F22.4).
func TestMostRefused(t *testing.T) {
	for _, text := range []string{"begin end", "secret k; out x; const T[2] = 7, 8; begin if k { x = T[1]; } end"} {
		f := program(t, "width 8; "+text)
		for _, most := range []int{0, -1, -9, math.MinInt} {
			m := simp.New()
			in := variables(t, f, m)
			terms := m.Store().Len()
			l, more, e := Paths(f, m, in, most)
			is(t, fmt.Sprint("most ", most), []any{l == nil, more, e}, []any{true, false, api.ErrArg})
			is(t, "the terms", m.Store().Len(), terms)
		}
	}
}

// TestInsideIfs: code within as many ifs as there may be (F22.4).
func TestInsideIfs(t *testing.T) {
	l := list(ins(api.FCopy, 1, number(99)))
	for n := range 64 {
		l = list(branch(temp(0), l, list(ins(api.FCopy, 1, number(uint64(63-n))))), ins(api.EAdd, 1, temp(1), number(1)))
	}
	b := begin(t, code(t, "width 8; secret k; out x;", 2, l...))
	ways, more := b.paths(65)
	is(t, "ways", []any{len(ways), more}, []any{65, false})
	is(t, "the first one", b.showWords(ways[0].State), fmt.Sprintf("(i0) (%d)", 99+64))
	is(t, "its conditions", len(ways[0].Conds), 64)
	for n := range 64 { // the way n from behind goes Else at the if n
		p := ways[64-n]
		is(t, fmt.Sprint("Else at ", n), b.showWords(p.State), fmt.Sprintf("(i0) (%d)", n+n+1))
		is(t, fmt.Sprint("Else at ", n), branches(p), strings.Repeat("1 ", n)+"0")
	}
	ways, more = b.paths(64)
	is(t, "ways", []any{len(ways), more}, []any{64, true})
}

// TestOtherInputs: inputs that are constants leave one way; ones that are alike make truths T and F (F22.4).
func TestOtherInputs(t *testing.T) {
	f := program(t, "width 8; secret k; secret n; out x; begin if k == n { x = 1; } if k { x = x + n; } end")
	m := simp.New()
	v, _ := m.Var("v", 8)
	three, _ := m.Const(8, 3)
	zero, _ := m.Const(8, 0)
	beginWith(t, f, m, []int{three, zero}).waysAre(9, false, "; branch 0, branch 1; (3) (0) (0)")
	beginWith(t, f, m, []int{v, v}).waysAre(9, false,
		"(not (eq v 0)); branch 1, branch 1; (v) (v) ((add v 1))", "(eq v 0); branch 1, branch 0; (v) (v) (1)")
	beginWith(t, f, m, []int{zero, v}).waysAre(9, false,
		"(eq v 0); branch 1, branch 0; (0) (v) (1)", "(not (eq v 0)); branch 0, branch 0; (0) (v) (0)")
}
