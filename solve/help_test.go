package solve

import (
	"fmt"
	"slices"
	"strconv"
	"strings"
	"testing"

	"cadence/aig"
	"cadence/api"
	"cadence/blast"
	"cadence/eval"
	"cadence/simp"
	"cadence/term"
	"cadence/tseitin"
)

// picker tells numbers that look like chance, the same ones in each run.
type picker uint64

func (p *picker) next() uint64 {
	*p ^= *p << 13
	*p ^= *p >> 7
	*p ^= *p << 17
	return uint64(*p)
}

func (p *picker) below(n int) int { return int(p.next() >> 11 % uint64(n)) }

func pickOf[T any](p *picker, list ...T) T { return list[p.below(len(list))] }

// is: what was answered is what the chapter says.
func is(t testing.TB, what string, got, want any) {
	t.Helper()
	if fmt.Sprint(got) != fmt.Sprint(want) {
		t.Fatalf("%s: %v, not %v", what, got, want)
	}
}

// must: what may not be refused.
func must[T any](t testing.TB) func(x T, e api.Errno) T {
	return func(x T, e api.Errno) T {
		t.Helper()
		if e != api.OK {
			t.Fatalf("refused: %d", e)
		}
		return x
	}
}

func newStore(t testing.TB) *term.Store {
	t.Helper()
	return must[*term.Store](t)(term.New(0))
}

func nodeOf(s *term.Store, t int) api.Node {
	n, e := s.Node(t)
	if e != api.OK {
		panic(fmt.Sprint("no term ", t))
	}
	return n
}

// shown: all that can be seen of a store's terms.
func shown(s *term.Store) string {
	var b strings.Builder
	for i := range s.Len() {
		fmt.Fprintln(&b, nodeOf(s, i+1))
	}
	return b.String()
}

// words: of the operations, by their numbers.
var words = strings.Fields("- true false const var not and or xor eq ult ule slt sle ite com neg band bor bxor add sub mul div rem shl shr sar rol ror cat slice zext sext")

// written reads a term of a text and makes it in a store as it stands: (add k:8 3:8), (slice k:8 2 4), (zext k:8 16); T, F; p is a truth, k:8 a word of 8 bits, 3:8 a constant of 8 bits.
type written struct {
	t    testing.TB
	s    *term.Store
	rest []string
}

// made: the term of a text.
func made(t testing.TB, s *term.Store, text string) int {
	t.Helper()
	w := &written{t, s, strings.Fields(strings.NewReplacer("(", " ( ", ")", " ) ").Replace(text))}
	x := w.term()
	if len(w.rest) > 0 {
		t.Fatalf("%q: behind its end: %q", text, w.rest)
	}
	return x
}

// all: the terms of several texts.
func all(t testing.TB, s *term.Store, texts ...string) []int {
	t.Helper()
	list := []int{}
	for _, text := range texts {
		list = append(list, made(t, s, text))
	}
	return list
}

func (w *written) token() string {
	s := w.rest[0]
	w.rest = w.rest[1:]
	return s
}

func (w *written) number() int {
	n, err := strconv.Atoi(w.token())
	if err != nil {
		w.t.Fatal(err)
	}
	return n
}

func (w *written) term() int {
	w.t.Helper()
	word := w.token()
	if word != "(" {
		return w.leaf(word)
	}
	op := slices.Index(words, w.token())
	x, e := w.node(op)
	if end := w.token(); end != ")" || e != api.OK {
		w.t.Fatalf("%s: %q, %d", words[op], end, e)
	}
	return x
}

func (w *written) node(op int) (int, api.Errno) {
	w.t.Helper()
	a := w.term()
	switch op {
	case api.OpSlice:
		from := w.number()
		return w.s.Slice(a, from, w.number())
	case api.OpZext, api.OpSext:
		return w.s.Ext(op, a, w.number())
	case api.OpNot, api.OpCom, api.OpNeg:
		return w.s.Un(op, a)
	case api.OpIte:
		b := w.term()
		return w.s.Ite(a, b, w.term())
	}
	return w.s.Bin(op, a, w.term())
}

func (w *written) leaf(word string) int {
	w.t.Helper()
	if word == "T" || word == "F" {
		return must[int](w.t)(w.s.Truth(word == "T"))
	}
	name, tail, _ := strings.Cut(word, ":")
	width, _ := strconv.Atoi(tail)
	if x, err := strconv.ParseUint(name, 0, 64); err == nil {
		return must[int](w.t)(w.s.Const(width, x))
	}
	return must[int](w.t)(w.s.Var(name, width))
}

// text: of a result: its kind, the values, clauses and decisions.
func text(r api.Result) string {
	list := []string{}
	for _, v := range r.Values {
		list = append(list, fmt.Sprintf("%s:%d %d", v.Name, v.W, v.Num))
	}
	kind := "kind " + strconv.Itoa(r.Kind)
	switch {
	case r.Kind == api.Sat && r.Which == 0:
		kind = "sat " + strings.Join(list, ", ")
	case r.Kind == api.Unsat && r.Which == 0 && r.Values == nil:
		kind = "unsat"
	case r.Kind == api.Spent && r.Values == nil:
		kind = []string{1: "paths", 2: "terms", api.CClauses: "no clauses", api.CDecisions: "no decisions", api.CRoom: "no room", 6: ""}[r.Which]
	}
	return fmt.Sprintf("%s; %d, %d", kind, r.Clauses, r.Decisions)
}

// solved: what Solve says of truths, without an error; the store stays as it was.
func solved(t testing.TB, s *term.Store, truths []int, clauses, decisions int64) api.Result {
	t.Helper()
	before, asked := shown(s), slices.Clone(truths)
	r := must[api.Result](t)(Solve(s, truths, clauses, decisions))
	is(t, "the truths", truths, asked)
	is(t, "the store", shown(s) == before, true)
	return r
}

// compared: what Same says of two terms, likewise.
func compared(t testing.TB, s *term.Store, a, b int, clauses, decisions int64) api.Result {
	t.Helper()
	before := shown(s)
	r := must[api.Result](t)(Same(s, a, b, clauses, decisions))
	is(t, "the store", shown(s) == before, true)
	return r
}

// formed: what Formula says of truths, likewise.
func formed(t testing.TB, s *term.Store, truths []int) (api.Formula, []Bit) {
	t.Helper()
	before, asked := shown(s), slices.Clone(truths)
	f, bits, e := Formula(s, truths)
	is(t, "Formula", e, api.OK)
	is(t, "the truths", truths, asked)
	is(t, "the store", shown(s) == before, true)
	return f, bits
}

// plain is a query in the chapter's words, one call behind the other.
type plain struct {
	g    *aig.Graph
	b    *blast.Blaster
	f    api.Formula
	cone []int
	bits []Bit
}

func newPlain(t testing.TB, s *term.Store, truths []int) plain {
	t.Helper()
	m, simple, e := simp.Simplify(s, truths...)
	is(t, "Simplify", e, api.OK)
	p := plain{g: aig.New()}
	p.b = must[*blast.Blaster](t)(blast.New(m.Store(), p.g))
	roots := []uint32{}
	for _, x := range simple {
		roots = append(roots, must[[]uint32](t)(p.b.Bits(x))[0])
	}
	p.f, p.cone, e = tseitin.Encode(p.g, roots)
	is(t, "Encode", e, api.OK)
	for _, n := range p.cone {
		bit := Bit{}
		if kind, node, _ := p.g.Node(n); kind == 1 {
			x := p.b.Inputs()[node.A]
			bit = Bit{Name: x.Name, W: x.W, Bit: x.Bit}
		}
		p.bits = append(p.bits, bit)
	}
	return p
}

// closed: unit by unit, each found by going through all clauses; false, if one of them is false.
func closed(f api.Formula, m []int8) bool {
	for again := true; again; {
		again = false
		for _, c := range f.Clauses {
			free, isTrue := 0, false
			unit := 0
			for _, l := range c {
				v, want := l, int8(1)
				if l < 0 {
					v, want = -l, -1
				}
				isTrue = isTrue || m[v-1] == want
				if m[v-1] == 0 {
					free++
					unit = l
				}
			}
			switch {
			case isTrue:
			case free == 0:
				return false
			case free == 1:
				again = true
				m[max(unit, -unit)-1] = int8(unit / max(unit, -unit))
			}
		}
	}
	return true
}

// searched: the search of chapter 4 as a function that calls itself: a model, or nil, and the decisions that it took.
func searched(f api.Formula, m []int8) ([]int8, int64) {
	m = slices.Clone(m)
	if !closed(f, m) {
		return nil, 0
	}
	v := slices.Index(m, 0)
	if v < 0 {
		return m, 0
	}
	m[v] = -1
	model, first := searched(f, m)
	if model != nil {
		return model, first + 1
	}
	m[v] = 1
	model, second := searched(f, m)
	return model, first + second + 1
}

// variablesOf: of some terms, by their names.
func variablesOf(t testing.TB, s *term.Store, roots []int) []api.Value {
	t.Helper()
	vars := must[[]api.Value](t)(eval.Vars(s, roots))
	slices.SortFunc(vars, func(v, w api.Value) int { return strings.Compare(v.Name, w.Name) })
	return vars
}

// allTrue: whether all truths are, with these values.
func allTrue(t testing.TB, s *term.Store, truths []int, vals []api.Value) bool {
	t.Helper()
	return !slices.Contains(must[[]uint64](t)(eval.Values(s, truths, vals)), 0)
}

// everyValue: all values of some variables, one behind the other.
func everyValue(vars []api.Value) [][]api.Value {
	every := [][]api.Value{nil}
	for _, v := range vars {
		longer := [][]api.Value{}
		for _, vals := range every {
			for x := range 1 << max(v.W, 1) {
				longer = append(longer, append(slices.Clone(vals), api.Value{Name: v.Name, W: v.W, Num: uint64(x)}))
			}
		}
		every = longer
	}
	return every
}

// possible: are there values under which all truths are true?
func possible(t testing.TB, s *term.Store, truths []int) bool {
	t.Helper()
	return slices.ContainsFunc(everyValue(variablesOf(t, s, truths)), func(vals []api.Value) bool {
		return allTrue(t, s, truths, vals)
	})
}

// grown: a store of mixed terms, truths and words, over few variables of few bits.
func grown(t testing.TB, p *picker, calls int) *term.Store {
	t.Helper()
	s := newStore(t)
	w := 1 + p.below(3)
	made(t, s, fmt.Sprint("b:", w))
	made(t, s, fmt.Sprint("a:", w))
	made(t, s, pickOf(p, "B", "ab", "a_"))
	made(t, s, pickOf(p, "a1:2", "C:1", "_:2", "b_"))
	first := s.Len()
	part := func() int { // mostly late ones
		return max(1+p.below(s.Len()), 1+p.below(s.Len()))
	}
	alike := func(a int) int { // mostly of the sort of another
		b := part()
		for range 20 {
			if nodeOf(s, a).W == nodeOf(s, b).W {
				break
			}
			b = part()
		}
		return b
	}
	for range calls {
		a := part()
		switch op := 1 + p.below(33); op {
		case api.OpTrue, api.OpFalse:
			s.Truth(op == api.OpTrue)
		case api.OpConst, api.OpVar:
			s.Const(1+p.below(4), p.next())
		case api.OpNot, api.OpCom, api.OpNeg:
			s.Un(op, a)
		case api.OpIte:
			s.Ite(alike(first), a, alike(a))
		case api.OpSlice:
			from := p.below(1 + nodeOf(s, a).W)
			s.Slice(a, from, 1+p.below(3))
		case api.OpZext, api.OpSext:
			s.Ext(op, a, min(nodeOf(s, a).W+p.below(3), 5))
		case api.OpCat:
			if b := part(); nodeOf(s, a).W+nodeOf(s, b).W <= 5 {
				s.Bin(op, a, b)
			}
		default:
			s.Bin(op, a, alike(a))
		}
	}
	return s
}

// someTruths: of a store, mostly late ones, some of them twice.
func someTruths(p *picker, s *term.Store, most int) []int {
	truths := []int{}
	for n := p.below(most + 1); len(truths) < n; {
		if x := max(1+p.below(s.Len()), 1+p.below(s.Len())); nodeOf(s, x).W == 0 {
			truths = append(truths, x)
		}
	}
	return truths
}
