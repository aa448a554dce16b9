package blast

import (
	"fmt"
	"slices"
	"strings"
	"testing"

	"cadence/aig"
	"cadence/api"
	"cadence/eval"
	"cadence/term"
)

// picker tells numbers that look like chance, the same ones in each run.
type picker uint64

func (p *picker) next() uint64 {
	*p ^= *p << 13
	*p ^= *p >> 7
	*p ^= *p << 17
	return uint64(*p)
}

func (p *picker) below(n int) int { return int(p.next() >> 11 % uint64(n)) }

func pickOf[T any](p *picker, list ...T) T { return list[p.below(len(list))] }

// word: a value of a sort, more often than not an edge.
func (p *picker) word(w int) uint64 {
	if w == 0 {
		return uint64(p.below(2))
	}
	top := ^uint64(0) >> (64 - w)
	return pickOf(p, 0, 1, top, top>>1, top>>1+1, p.next(), p.next(), p.next()>>p.below(64)) & top
}

// is: what was answered is what the chapter says.
func is(t testing.TB, what string, got, want any) {
	t.Helper()
	if fmt.Sprint(got) != fmt.Sprint(want) {
		t.Fatalf("%s: %v, not %v", what, got, want)
	}
}

// must: what may not be refused.
func must[T any](t testing.TB) func(x T, e api.Errno) T {
	return func(x T, e api.Errno) T {
		t.Helper()
		if e != api.OK {
			t.Fatalf("refused: %d", e)
		}
		return x
	}
}

// newStore: a store without a limit, read from a text of terms.
func newStore(t testing.TB, text string) (*term.Store, []int) {
	t.Helper()
	s, roots, line, e := term.Load(text, 0)
	if e != api.OK {
		t.Fatalf("line %d of %q: %d", line, text, e)
	}
	return s, roots
}

// newBlaster: over a store and a new graph.
func newBlaster(t testing.TB, s *term.Store) (*Blaster, *aig.Graph) {
	t.Helper()
	g := aig.New()
	return must[*Blaster](t)(New(s, g)), g
}

func node(s *term.Store, t int) api.Node {
	n, e := s.Node(t)
	if e != api.OK {
		panic(fmt.Sprint("no term ", t))
	}
	return n
}

// look: what is told of a graph's nodes from one on, as text: false is 0, an input i0, a gate 2*4.
func look(t testing.TB, g *aig.Graph, from int) string {
	t.Helper()
	var words []string
	for n := from; n < g.Nodes(); n++ {
		kind, gate, e := g.Node(n)
		switch {
		case e != api.OK:
			t.Fatalf("Node(%d) of %d: %d", n, g.Nodes(), e)
		case kind == 0:
			words = append(words, "0")
		case kind == 1:
			words = append(words, fmt.Sprintf("i%d", gate.A))
		default:
			words = append(words, fmt.Sprintf("%d*%d", gate.A, gate.B))
		}
	}
	return strings.Join(words, " ")
}

// gatesOf: the nodes of a text's terms, in a new graph, without node 0, and the vector of its last root.
func gatesOf(t testing.TB, text string) (string, []uint32) {
	t.Helper()
	s, roots := newStore(t, text)
	b, g := newBlaster(t, s)
	var l []uint32
	for _, r := range roots {
		l = must[[]uint32](t)(b.Bits(r))
	}
	return look(t, g, 1), l
}

// holding is a blaster, and beside it the plain one that it is held against.
type holding struct {
	t     testing.TB
	s     *term.Store
	g     *aig.Graph
	b     *Blaster
	p     *plain
	first int // nodes of the graph at the beginning
}

func newHolding(t testing.TB, s *term.Store, g *aig.Graph) holding {
	t.Helper()
	return holding{t, s, g, must[*Blaster](t)(New(s, g)), newPlain(s, g), g.Nodes()}
}

// bits asks both for a term: they must answer alike, and have made the same nodes in the same order.
func (h holding) bits(term int) ([]uint32, api.Errno) {
	h.t.Helper()
	what := fmt.Sprint("Bits(", term, ")")
	if 1 <= term && term <= h.s.Len() {
		what += fmt.Sprint(" of ", node(h.s, term))
	}
	l, e := h.b.Bits(term)
	want, bad := h.p.bits(term)
	is(h.t, what, []any{slices.Clone(l), e}, []any{want, bad})
	is(h.t, what+": nodes", h.g.Nodes(), h.p.nodes)
	is(h.t, what+": inputs", h.b.Inputs(), h.p.inputs)
	return l, e
}

// end: all nodes that were made, in their order.
func (h holding) end() {
	h.t.Helper()
	is(h.t, "the nodes", look(h.t, h.g, h.first), strings.Join(h.p.made, " "))
}

// rows: 64 rows of values for a blaster's inputs, each variable's more often than not an edge; by row the variables' values.
func rows(p *picker, inputs []Input) ([]uint64, [][]api.Value) {
	words := make([]uint64, len(inputs))
	told := make([][]api.Value, 64)
	for k := range told {
		for i, x := range inputs {
			if x.Bit == 0 {
				told[k] = append(told[k], api.Value{Name: x.Name, W: x.W, Num: p.word(x.W)})
			}
			num := told[k][len(told[k])-1].Num
			words[i] |= num >> x.Bit & 1 << k
		}
	}
	return words, told
}

// means: with each of 64 rows of values, the literals that a term has are the bits of its value. The blaster alone made the graph's inputs.
func means(t testing.TB, p *picker, s *term.Store, g *aig.Graph, b *Blaster, roots ...int) {
	t.Helper()
	var lits [][]uint32
	for _, r := range roots {
		lits = append(lits, must[[]uint32](t)(b.Bits(r)))
	}
	in, told := rows(p, b.Inputs())
	for i, r := range roots {
		out := must[[]uint64](t)(g.Sim(in, lits[i]))
		for k, vals := range told {
			want := must[uint64](t)(eval.Value(s, r, vals))
			got := uint64(0)
			for j, w := range out {
				got |= w >> k & 1 << j
			}
			if got != want {
				t.Fatalf("%v with %v: %d, not %d", node(s, r), vals, got, want)
			}
		}
	}
}

// widths: of words in the tests' stores.
var widths = []int{1, 2, 3, 4, 8, 16}

// grown: a store of very mixed terms, truths and words, over variables of each width.
func grown(t testing.TB, p *picker, calls int) *term.Store {
	t.Helper()
	s := must[*term.Store](t)(term.New(0))
	for i, w := range widths {
		s.Var(fmt.Sprint("w", i), w)
		s.Var(fmt.Sprint("v", i), w)
	}
	s.Var("p", 0)
	s.Var("q", 0)
	first := s.Len()
	part := func() int {
		if p.below(3) == 0 || s.Len() == first {
			return 1 + p.below(first)
		}
		return s.Len() - p.below(min(s.Len()-first, 40))
	}
	alike := func(a int) int { // mostly of the sort of another
		b := part()
		for range 20 {
			if node(s, a).W == node(s, b).W {
				break
			}
			b = part()
		}
		return b
	}
	for range calls {
		switch op := 1 + p.below(33); op {
		case api.OpTrue, api.OpFalse:
			s.Truth(op == api.OpTrue)
		case api.OpConst:
			s.Const(pickOf(p, widths...), p.next()>>p.below(64))
		case api.OpVar:
			s.Var(pickOf(p, "p", "z", "w1"), pickOf(p, 0, 8, 3))
		case api.OpNot, api.OpCom, api.OpNeg:
			s.Un(op, part())
		case api.OpIte:
			a := part()
			s.Ite(alike(first), a, alike(a)) // first is a truth
		case api.OpSlice:
			a := part()
			from := p.below(1 + node(s, a).W)
			s.Slice(a, from, 1+p.below(1+node(s, a).W-from))
		case api.OpZext, api.OpSext:
			a := part()
			s.Ext(op, a, node(s, a).W+p.below(5))
		default:
			a := part()
			s.Bin(op, a, alike(a))
		}
	}
	return s
}
