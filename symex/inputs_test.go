package symex

import (
	"fmt"
	"math"
	"strings"
	"testing"

	"cadence/api"
	"cadence/run"
	"cadence/simp"
)

// noCode: flat code that may not be, in several ways.
func noCode(t testing.TB) map[string]api.Flat {
	t.Helper()
	all := map[string]api.Flat{"nothing": {}}
	add := func(what string, turn func(f *api.Flat)) {
		f := code(t, "width 8; secret k; out x; const T[2] = 5, 6;", 3, ins(api.EAdd, 1, temp(0), number(1)))
		turn(&f)
		all[what] = f
	}
	add("a width of 5", func(f *api.Flat) { f.Width = 5 })
	add("a width below 0", func(f *api.Flat) { f.Width = -8 })
	add("a line of 3", func(f *api.Flat) { f.Line = 3 })
	add("no line", func(f *api.Flat) { f.Line = 0 })
	add("a temp too few", func(f *api.Flat) { f.Temps = 1 })
	add("temps below 0", func(f *api.Flat) { f.Temps = math.MinInt })
	add("temps too many", func(f *api.Flat) { f.Temps = 1<<20 + 1 })
	add("a kind that is none", func(f *api.Flat) { f.Decls[0].Kind = 6 })
	add("a name twice", func(f *api.Flat) { f.Decls[0].Name = "x" })
	add("a size of 3", func(f *api.Flat) { f.Decls[0].Size = 3 })
	add("a size below 0", func(f *api.Flat) { f.Decls[1].Size = -1 })
	add("a table without a word", func(f *api.Flat) { f.Decls[2].Values = f.Decls[2].Values[:1] })
	add("a word that is too great", func(f *api.Flat) { f.Decls[2].Values[0] = 256 })
	add("an operation that is none", func(f *api.Flat) { f.Code[0].Op = 27 })
	add("no temp of the code", func(f *api.Flat) { f.Code[0].Dst = 3 })
	add("a store to a table", func(f *api.Flat) { f.Code[0] = store(2, number(0), number(0)) })
	add("wrong in a part", func(f *api.Flat) { f.Code[0] = branch(temp(0), nil, list(release(number(256)))) })
	return all
}

// TestLength: the words of what is public or secret (F22.1).
func TestLength(t *testing.T) {
	for _, r := range []struct {
		head string
		want int
	}{
		{"", 0},
		{"out x; var v; const T[4] = 1, 2, 3, 4; out y[8]; var w[2];", 0},
		{"secret k;", 1},
		{"public n;", 1},
		{"secret k[1];", 1},
		{"secret k; out x; public n[4]; const T[4] = 1, 2, 3, 4; secret b[2]; public m;", 8},
		{"secret a[256]; public b[256];", 512},
		{strings.Join(arrays("secret", 16), " "), 4096},
	} {
		f := program(t, r.head+" begin end")
		n, e := Length(f)
		is(t, r.head, []any{n, e}, []any{r.want, api.OK})
		n, e = run.Length(api.Program{Name: "p", Width: f.Width, Line: f.Line, Decls: f.Decls})
		is(t, "run.Length of "+r.head, []any{n, e}, []any{r.want, api.OK})
	}
	for what, f := range noCode(t) {
		n, e := Length(f)
		is(t, what, []any{n, e}, []any{0, api.ErrArg})
	}
}

// arrays: so many declarations of 256 words.
func arrays(kind string, n int) []string {
	var l []string
	for i := range n {
		l = append(l, fmt.Sprintf("%s a%d[256];", kind, i))
	}
	return l
}

// inputsAre: what Inputs answers, as texts with the widths of all.
func inputsAre(t testing.TB, f api.Flat, m *simp.Maker, tails []string, want string) []int {
	t.Helper()
	in, e := Inputs(f, m, tails)
	if e != api.OK {
		t.Fatalf("%q: %d", tails, e)
	}
	var all []string
	for _, x := range in {
		n, _ := m.Store().Node(x)
		if n.Op != api.OpVar {
			t.Fatalf("%q: no variable: %+v", tails, n)
		}
		all = append(all, fmt.Sprint(n.Name, ":", n.W))
	}
	is(t, fmt.Sprintf("%q", tails), strings.Join(all, " "), want)
	return in
}

// TestInputs: a variable for each position, with its number and its tail (F22.1).
func TestInputs(t *testing.T) {
	const head = "secret k; out x; public n[2]; const T[2] = 1, 2; secret m; "
	for _, w := range widths() {
		f := program(t, fmt.Sprintf("width %d; %s begin end", w, head))
		m := simp.New()
		inputsAre(t, f, m, []string{"", "", "", ""}, strings.ReplaceAll("i0:# i1:# i2:# i3:#", "#", fmt.Sprint(w)))
		inputsAre(t, f, m, []string{"_2", "", "a", "77"}, strings.ReplaceAll("i0_2:# i1:# i2a:# i377:#", "#", fmt.Sprint(w)))
	}
	inputsAre(t, program(t, "out x; begin x = 1; end"), simp.New(), nil, "")
	inputsAre(t, program(t, "out x; begin x = 1; end"), simp.New(), []string{}, "")
	f := program(t, "width 8; "+strings.Join(arrays("public", 16), " ")+" begin end")
	m := simp.New()
	in := variables(t, f, m)
	is(t, "how many", len(in), api.MaxInputs)
	for i, x := range in {
		n, _ := m.Store().Node(x)
		is(t, "a variable", n, api.Node{Op: api.OpVar, W: 8, Name: fmt.Sprint("i", i)})
	}
}

// TestInputsThere: variables that are there already, with the width that is asked for (F22.1).
func TestInputsThere(t *testing.T) {
	f := program(t, "width 8; secret k[4]; begin end")
	m := simp.New()
	two, _ := m.Var("i2", 8)
	m.Var("i3x", 8)
	first := inputsAre(t, f, m, make([]string, 4), "i0:8 i1:8 i2:8 i3:8")
	is(t, "the one that was there", first[2], two)
	terms := m.Store().Len()
	is(t, "asked again", inputsAre(t, f, m, make([]string, 4), "i0:8 i1:8 i2:8 i3:8"), first)
	is(t, "terms", m.Store().Len(), terms)
}

// TestInputsAlike: two positions whose numbers and tails are one name have one variable (F22.1).
func TestInputsAlike(t *testing.T) {
	f := program(t, "width 8; secret k[16]; begin end")
	tails := make([]string, 16)
	tails[1] = "1"
	m := simp.New()
	in, e := Inputs(f, m, tails)
	is(t, "Inputs", e, api.OK)
	is(t, "1 with 1, and 11", in[1], in[11])
	is(t, "all variables", m.Store().Len(), 15)
}

// TestNames: names of as many bytes as a name may have, and one more; tails that make no name (F22.1).
func TestNames(t *testing.T) {
	one := program(t, "width 8; secret k; begin end")
	long := strings.Repeat("z", api.MaxName-2)
	inputsAre(t, one, simp.New(), []string{long}, "i0"+long+":8")
	many := program(t, "width 8; "+strings.Join(arrays("secret", 16), " ")+" begin end")
	tails := make([]string, api.MaxInputs)
	tails[9], tails[4095] = long, long[3:]
	if in, e := Inputs(many, simp.New(), tails); len(in) != api.MaxInputs || e != api.OK {
		t.Fatal(len(in), e)
	}
	refused := func(f api.Flat, tails []string) {
		t.Helper()
		m := simp.New()
		in, e := Inputs(f, m, tails)
		is(t, "a name that is none", []any{in, e, m.Store().Len()}, []any{[]int(nil), api.ErrArg, 0})
	}
	for _, place := range []int{10, 100, 999, 1000, 4094} {
		with := append([]string(nil), tails...)
		with[place] = long
		refused(many, with)
	}
	tails[4095] = long[2:]
	refused(many, tails)
	for _, tail := range []string{long + "z", "-", " ", "é", "a b", "\x00", "a\n", "[", strings.Repeat("a", 1<<20)} {
		refused(one, []string{tail})
		with := make([]string, api.MaxInputs)
		with[4095] = tail
		refused(many, with)
	}
}

// TestInputsRefused: the errors in their order, and that nothing is made beside them (F22.1, rule 2).
func TestInputsRefused(t *testing.T) {
	f := program(t, "width 8; secret k; public n[2]; begin end")
	for what, g := range noCode(t) {
		for _, m := range []*simp.Maker{nil, new(simp.Maker), simp.New()} {
			in, e := Inputs(g, m, []string{"-"})
			is(t, what, []any{in, e}, []any{[]int(nil), api.ErrArg})
		}
	}
	refused := func(what string, m *simp.Maker, tails []string, want api.Errno) {
		t.Helper()
		terms := 0
		if m != nil && m.Store() != nil {
			terms = m.Store().Len()
		}
		in, e := Inputs(f, m, tails)
		is(t, what, []any{in, e}, []any{[]int(nil), want})
		if terms > 0 {
			is(t, what+": the terms", m.Store().Len(), terms)
		}
	}
	taken := simp.New()
	taken.Var("i0", 4)
	for _, tails := range [][]string{nil, {}, {""}, {"", ""}, {"-", "-"}, {"", "", "", ""}, {"-", "-", "-", "-"}, make([]string, 1<<16)} {
		refused("no maker", nil, tails, api.ErrNil)
		refused("a maker that none made", new(simp.Maker), tails, api.ErrNil)
		refused("a wrong length", simp.New(), tails, api.ErrLength)
		refused("a wrong length, and a name that is taken", taken, tails, api.ErrLength)
	}
	refused("no maker, and no name", nil, []string{"-", "", ""}, api.ErrNil)
	refused("no name", simp.New(), []string{"", "", "-"}, api.ErrArg)
	refused("no name, and one ahead that is taken", taken, []string{"", "-", ""}, api.ErrArg)
	refused("a name that is taken", taken, []string{"", "", ""}, api.ErrName)
}

// TestTaken: a variable of that name and another width, at each position: ErrName, and none of the others is made (F22.1, rule 2).
func TestTaken(t *testing.T) {
	f := program(t, "width 8; secret k[4]; begin end")
	for place := range 4 {
		for _, w := range []int{0, 1, 4, 7, 9, 64} {
			m := simp.New()
			m.Var("other", 4)
			m.Var(fmt.Sprint("i", place, "_"), w)
			in, e := Inputs(f, m, []string{"_", "_", "_", "_"})
			is(t, "a name that is taken", []any{in, e, m.Store().Len()}, []any{[]int(nil), api.ErrName, 2})
			for i := range 4 {
				if _, e := m.Var(fmt.Sprint("i", i, "_"), 33); i != place && e != api.OK {
					t.Fatal("made beside an error: ", i, e)
				}
			}
			inputsAre(t, f, m, []string{"", "", "", ""}, "i0:8 i1:8 i2:8 i3:8")
		}
	}
}
