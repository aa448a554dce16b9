package flow

import (
	"fmt"
	"slices"
	"strings"
	"testing"

	"cadence/api"
	"cadence/run"
	"cadence/wf"
)

// maker makes texts of programs: singles x, y, z, u, v, arrays a, b, tables T, U, in any order.
type maker struct {
	*picker
	tame  bool // what is seen is mostly public, so that many programs are typed
	small bool // of 4 bits, with few inputs
	width int
	loops []string
}

func (m *maker) pick(list ...string) string { return pickOf(m.picker, list...) }

func (m *maker) single() string { return m.pick("x", "y", "z", "u", "v") }

// leaf: a number, a single's name or a loop's.
func (m *maker) leaf() string {
	switch m.below(5) {
	case 0:
		return fmt.Sprint(m.below(16))
	case 1:
		if len(m.loops) > 0 {
			return m.pick(m.loops...)
		}
	}
	return m.single()
}

// open: an expression that is seen.
func (m *maker) open(depth int) string {
	if !m.tame || m.below(12) == 0 {
		return m.expr(depth)
	}
	pub := m.pick("n", "n", "c", "c", fmt.Sprint(m.below(16)), m.leaf())
	if m.below(3) == 0 {
		return m.pick("~n", "n + 1", "c & 3", "n ^ c", pub+" + 1", "sel(n, c, 2)", "n < "+pub)
	}
	return pub
}

func (m *maker) expr(depth int) string {
	if depth <= 1 || m.below(4) == 0 {
		return m.leaf()
	}
	part := func() string { return "(" + m.expr(depth-1-m.below(2)) + ")" }
	switch kind := m.below(20); {
	case kind < 4:
		return m.pick("a", "b", "T", "U") + "[" + m.open(depth-1) + "]"
	case kind < 6:
		return m.pick("~", "-") + part()
	case kind < 8:
		return "sel(" + part() + ", " + part() + ", " + part() + ")"
	case kind < 9:
		return joinedText(pickOf(m.picker, api.EDiv, api.ERem), "("+m.open(depth-1)+")", "("+m.open(depth-1)+")")
	}
	kind := api.EMul + m.below(api.ESlt-api.EMul+1)
	if kind == api.EDiv || kind == api.ERem { // those have a case of their own
		kind = api.EAdd
	}
	return joinedText(kind, part(), part())
}

func (m *maker) stmts(depth int) string {
	text := ""
	for range m.below(4) {
		text += m.stmt(depth)
	}
	return text
}

func (m *maker) stmt(depth int) string {
	kind := m.below(10)
	if depth <= 1 {
		kind %= 6
	}
	switch kind {
	case 0, 1: // a word that is handed on
		return fmt.Sprintf("%s = %s; ", m.single(), m.single())
	case 2:
		return fmt.Sprintf("%s[%s] = %s; ", m.pick("a", "b"), m.open(3), m.expr(3))
	case 3:
		return fmt.Sprintf("release %s; ", m.pick("x", "y", "z", "u", "v", "n", "c"))
	case 6, 7:
		return fmt.Sprintf("if %s { %s} else { %s} ", m.open(3), m.stmts(depth-1), m.stmts(depth-1))
	case 8, 9:
		return m.loop(depth)
	}
	to := m.single()
	if m.below(20) == 0 {
		to = m.pick("n", "c")
	}
	return fmt.Sprintf("%s = %s; ", to, m.expr(4))
}

func (m *maker) loop(depth int) string {
	lo, rounds := m.below(4), m.below(6)
	name := fmt.Sprintf("i%d", len(m.loops))
	m.loops = append(m.loops, name)
	text := fmt.Sprintf("for %s %d %d { %s%s} ", name, lo, lo+rounds, m.stmt(depth-1), m.stmts(depth-1))
	m.loops = m.loops[:len(m.loops)-1]
	return text
}

func (m *maker) table(size int) string {
	list := make([]string, size)
	for i := range list {
		list[i] = fmt.Sprint(m.below(16))
	}
	return fmt.Sprintf("[%d] = %s; ", size, strings.Join(list, ", "))
}

// decls: in any order. n and c are public, or begin as 0.
func (m *maker) decls() string {
	kind := func() string { return m.pick("public ", "secret ", "secret ", "var ", "out ") }
	sizes := []int{1, 2, 4, 16}
	if m.small {
		kind = func() string { return m.pick("var ", "out ") }
		sizes = []int{1, 2, 4}
	}
	decls := []string{"public n; ", m.pick("var ", "out ") + "c; ", "const T" + m.table(4), "const U" + m.table(pickOf(m.picker, 1, 2, 8))}
	for _, s := range []string{"y", "z", "u", "v"} {
		decls = append(decls, kind()+s+"; ")
	}
	for _, s := range []string{"a", "b"} {
		decls = append(decls, fmt.Sprintf("%s%s[%d]; ", kind(), s, pickOf(m.picker, sizes...)))
	}
	decls = append(decls, m.pick("secret ", kind())+"x; ")
	if m.small {
		decls[len(decls)-1] = "secret x; "
	}
	text := ""
	for len(decls) > 0 {
		i := m.below(len(decls))
		text += decls[i]
		decls = slices.Delete(decls, i, i+1)
	}
	return text
}

// program: its text.
func (m *maker) program() string {
	m.width = pickOf(m.picker, 4, 8, 16, 32, 64)
	if m.small {
		m.width = 4
	}
	text := fmt.Sprintf("width %d; line %d; ", m.width, pickOf(m.picker, 1, 1, 2, 4, 256))
	return text + m.decls() + "begin " + m.stmt(5) + m.stmt(5) + m.stmts(5) + "end"
}

// rightProgram: any program that is right.
func rightProgram(t testing.TB, k *picker, m maker) api.Program {
	t.Helper()
	m.picker = k
	for range 100 {
		p := parsed(t, m.program())
		switch e := wf.Check(p); e {
		case api.OK:
			return p
		case api.ErrUnrolled:
		default:
			t.Fatalf("made right, and is %d: %s", e, shown(p))
		}
	}
	t.Fatal("no right program")
	return api.Program{}
}

// typedProgram: any program that is typed and has a secret.
func typedProgram(t testing.TB, k *picker, m maker) api.Program {
	t.Helper()
	for range 1000 {
		if p := rightProgram(t, k, m); isTyped(t, p) && len(secretsOf(p)) > 0 {
			return p
		}
	}
	t.Fatal("no typed program")
	return api.Program{}
}

// heldPlainly: each call answers what the plain reading says.
func heldPlainly(t testing.TB, k *picker, p api.Program) *plainFlow {
	t.Helper()
	f := plainly(p)
	if got, want := highOf(t, p), f.high(); !slices.Equal(got, want) {
		t.Fatalf("high: %v, not %v, of\n%s", got, want, shown(p))
	}
	if got, want := fmt.Sprint(endsOf(t, p)), fmt.Sprint(f.ends()); got != want {
		t.Fatalf("ends: %s, not %s, of\n%s", got, want, shown(p))
	}
	is(t, "places", len(f.paths), thingsOf(t, p))
	for _, place := range append(somePlaces(t, k, p), -1, len(f.paths)) {
		want, stands := f.sources(place)
		if !stands {
			noSources(t, p, place)
		} else if got := sourcesAt(t, p, place); !slices.Equal(got, want) {
			t.Fatalf("sources at %d: %v, not %v, of\n%s", place, got, want, shown(p))
		}
	}
	return f
}

// TestMany: many programs against the plain reading (F18.1, F18.2).
func TestMany(t *testing.T) {
	k := picker(1801)
	typed, high, twice := 0, 0, 0
	for i := range 2500 {
		f := heldPlainly(t, &k, rightProgram(t, &k, maker{tame: i%2 == 0, small: i%5 == 0}))
		switch n := len(f.high()); {
		case n == 0:
			typed++
		case n > 1:
			twice++
			fallthrough
		default:
			high++
		}
	}
	if typed < 400 || high < 1000 || twice < 600 {
		t.Fatal("too few: ", typed, high, twice)
	}
}

// anyInputs: so many words, the bits above the width too.
func anyInputs(k *picker, n int) []uint64 {
	var in []uint64
	for range n {
		in = append(in, pickOf(k, uint64(k.below(4)), uint64(k.below(20)), k.next()))
	}
	return in
}

// owners: of each input word the number of its declaration.
func owners(p api.Program) []int {
	var list []int
	for i, d := range p.Decls {
		if d.Kind == api.DPublic || d.Kind == api.DSecret {
			list = append(list, slices.Repeat([]int{i}, max(1, d.Size))...)
		}
	}
	return list
}

// otherSecrets: inputs that are alike but for words of secret declarations; those of the kept ones are alike, too.
func otherSecrets(k *picker, p api.Program, x []uint64, kept []int) []uint64 {
	y := slices.Clone(x)
	for i, owner := range owners(p) {
		if p.Decls[owner].Kind == api.DSecret && !slices.Contains(kept, owner) && k.below(4) > 0 {
			y[i] = anyInputs(k, 1)[0]
		}
	}
	return y
}

// ended: what a right program comes to.
func ended(t testing.TB, p api.Program, in []uint64) api.Ended {
	t.Helper()
	a, e := run.Run(p, in)
	if e != api.OK {
		t.Fatalf("%d, of %v, of\n%s", e, in, shown(p))
	}
	return a
}

// leaks: do two inputs of a program leak?
func leaks(t testing.TB, p api.Program, x, y []uint64) bool {
	t.Helper()
	leak, _, e := run.Leaks(p, x, y)
	if e != api.OK {
		t.Fatalf("%d, of %v and %v, of\n%s", e, x, y, shown(p))
	}
	return leak
}

// wordsOf: the last words of each declaration, by its number; of a table none.
func wordsOf(p api.Program, a api.Ended) [][]uint64 {
	var list [][]uint64
	next := 0
	for _, d := range p.Decls {
		if d.Kind == api.DConst {
			list = append(list, nil)
			continue
		}
		list = append(list, a.State[next])
		next++
	}
	return list
}

// TestTypedIsConstantTime: of a typed program run.Leaks is never true (P1801).
func TestTypedIsConstantTime(t *testing.T) {
	k := picker(18011)
	seen, released, unlike := 0, 0, 0
	for range 1500 {
		p := typedProgram(t, &k, maker{tame: true})
		n, _ := run.Length(p)
		for range 6 {
			x := anyInputs(&k, n)
			y := otherSecrets(&k, p, x, nil)
			if leaks(t, p, x, y) {
				t.Fatalf("%v and %v leak, of\n%s", x, y, shown(p))
			}
			a, b := ended(t, p, x), ended(t, p, y)
			if len(a.Trace) > 2 {
				seen++
			}
			if _, differ := run.Differ(a.Trace, b.Trace); differ {
				released++
			}
			if fmt.Sprint(a.State) != fmt.Sprint(b.State) {
				unlike++
			}
		}
	}
	if seen < 3000 || released < 300 || unlike < 3000 {
		t.Fatal("too few: ", seen, released, unlike)
	}
}

// TestHighLeaks: of programs that are not typed many do leak: what is told above is not told of all.
func TestHighLeaks(t *testing.T) {
	k := picker(18012)
	leaking := 0
	for range 1500 {
		p := rightProgram(t, &k, maker{tame: true})
		n, _ := run.Length(p)
		for range 4 {
			x := anyInputs(&k, n)
			if leaks(t, p, x, otherSecrets(&k, p, x, nil)) {
				leaking++
				if isTyped(t, p) {
					t.Fatalf("typed, and leaks:\n%s", shown(p))
				}
			}
		}
	}
	if leaking < 200 {
		t.Fatal("too few: ", leaking)
	}
}

// TestAllPairs: small typed programs, with all their inputs (P1801, P1802).
func TestAllPairs(t *testing.T) {
	k := picker(18013)
	for range 60 {
		p := typedProgram(t, &k, maker{tame: true, small: true})
		n, _ := run.Length(p)
		is(t, "inputs", n, 2)
		public, _ := run.Public(p)
		ends := endsOf(t, p)
		for open := range uint64(16) {
			var all []api.Ended
			var inputs [][]uint64
			for secret := range uint64(16) {
				in := []uint64{secret, secret}
				in[slices.Index(public, true)] = open
				inputs = append(inputs, in)
				all = append(all, ended(t, p, in))
			}
			for i := range all {
				for j := range i {
					if leaks(t, p, inputs[i], inputs[j]) {
						t.Fatalf("%v and %v leak, of\n%s", inputs[i], inputs[j], shown(p))
					}
					sameWhereNothing(t, p, ends, all[i], all[j])
				}
			}
		}
	}
}

// sameWhereNothing: declarations that hang on nothing have the same last words, if the traces are the same.
func sameWhereNothing(t testing.TB, p api.Program, ends [][]int, a, b api.Ended) {
	t.Helper()
	if _, differ := run.Differ(a.Trace, b.Trace); differ {
		return
	}
	one, two := wordsOf(p, a), wordsOf(p, b)
	for i := range ends {
		if len(ends[i]) == 0 && !slices.Equal(one[i], two[i]) {
			t.Fatalf("%s hangs on nothing, and is %v and %v, of\n%s", p.Decls[i].Name, one[i], two[i], shown(p))
		}
	}
}

// TestWhatItHangsOn: inputs that are alike in what a declaration hangs on bring it to the same words, if the traces are the same (P1802).
func TestWhatItHangsOn(t *testing.T) {
	k := picker(1802)
	held, others, some := 0, 0, 0
	for range 1200 {
		p := typedProgram(t, &k, maker{tame: true})
		n, _ := run.Length(p)
		ends := endsOf(t, p)
		for number, kept := range ends {
			x := anyInputs(&k, n)
			y := otherSecrets(&k, p, x, kept)
			a, b := ended(t, p, x), ended(t, p, y)
			if _, differ := run.Differ(a.Trace, b.Trace); differ {
				continue
			}
			one, two := wordsOf(p, a), wordsOf(p, b)
			if !slices.Equal(one[number], two[number]) {
				t.Fatalf("%s hangs on %v, and is %v and %v, with %v and %v, of\n%s", p.Decls[number].Name, kept, one[number], two[number], x, y, shown(p))
			}
			held++
			if fmt.Sprint(one) != fmt.Sprint(two) {
				others++
			}
			if len(kept) > 0 {
				some++
			}
		}
	}
	if held < 8000 || others < 4000 || some < 2000 {
		t.Fatal("too few: ", held, others, some)
	}
}
