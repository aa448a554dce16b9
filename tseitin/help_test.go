package tseitin

import (
	"fmt"
	"slices"
	"testing"

	"cadence/aig"
	"cadence/api"
)

// picker tells numbers that look like chance, the same ones in each run.
type picker uint64

func (p *picker) next() uint64 {
	*p ^= *p << 13
	*p ^= *p >> 7
	*p ^= *p << 17
	return uint64(*p)
}

func (p *picker) below(n int) int { return int(p.next() >> 11 % uint64(n)) }

// is: what was answered is what the chapter says.
func is(t testing.TB, what string, got, want any) {
	t.Helper()
	if fmt.Sprint(got) != fmt.Sprint(want) {
		t.Fatalf("%s: %v, not %v", what, got, want)
	}
}

// must: what may not be refused.
func must[T any](t testing.TB) func(x T, e api.Errno) T {
	return func(x T, e api.Errno) T {
		t.Helper()
		if e != api.OK {
			t.Fatalf("refused: %d", e)
		}
		return x
	}
}

// call is Encode or Polar.
type call func(g *aig.Graph, roots []uint32) (api.Formula, []int, api.Errno)

// both: Encode and Polar.
func both() map[string]call { return map[string]call{"Encode": Encode, "Polar": Polar} }

// told: an answer of Encode or Polar that is no error.
func told(t testing.TB, f call, g *aig.Graph, roots ...uint32) (api.Formula, []int) {
	t.Helper()
	formula, cone, e := f(g, roots)
	if e != api.OK {
		t.Fatalf("refused: %d", e)
	}
	return formula, cone
}

// inputsOf: a graph of so many inputs.
func inputsOf(t testing.TB, n int) *aig.Graph {
	t.Helper()
	g := aig.New()
	for range n {
		if _, e := g.Input(); e != api.OK {
			t.Fatalf("refused: %d", e)
		}
	}
	return g
}

// example: the graph of the chapter: 6 is And(2, 4), 8 is And(7, 2).
func example(t testing.TB) *aig.Graph {
	t.Helper()
	g := inputsOf(t, 2)
	is(t, "And", must[uint32](t)(g.And(2, 4)), 6)
	is(t, "And", must[uint32](t)(g.And(7, 2)), 8)
	return g
}

// look: all nodes of a graph.
func look(t testing.TB, g *aig.Graph) string {
	t.Helper()
	text := ""
	for n := range g.Nodes() {
		kind, gate, e := g.Node(n)
		text += fmt.Sprintln(kind, gate, int(e))
	}
	return text
}

// literal: one that may be in a graph, constants too, the later ones more often.
func literal(p *picker, g *aig.Graph) uint32 {
	n := max(p.below(g.Nodes()), p.below(g.Nodes()))
	return uint32(2*n + p.below(2))
}

func literals(p *picker, g *aig.Graph, n int) []uint32 {
	list := []uint32{}
	for range n {
		list = append(list, literal(p, g))
	}
	return list
}

// grown: a graph of some inputs, and of what comes of so many calls.
func grown(t testing.TB, p *picker, inputs, calls int) *aig.Graph {
	t.Helper()
	g := inputsOf(t, inputs)
	for range calls {
		a, b, c := literal(p, g), literal(p, g), literal(p, g)
		switch p.below(10) {
		case 0:
			must[uint32](t)(g.Input())
		case 1:
			must[uint32](t)(g.Xor(a, b))
		case 2:
			must[uint32](t)(g.Mux(a, b, c))
		case 3:
			must[uint32](t)(g.Or(a, b))
		default:
			must[uint32](t)(g.And(a, b))
		}
	}
	return g
}

// plain reads the chapter word by word: what is wanted is a set of the graph's literals that grows until nothing is added, and variables are looked for in the cone.
type plain struct {
	g     *aig.Graph
	roots []uint32
	cone  []int
}

func newPlain(t testing.TB, g *aig.Graph, roots []uint32) plain {
	t.Helper()
	return plain{g, roots, must[[]int](t)(g.Cone(roots))}
}

func (p plain) gate(n int) (api.Gate, bool) {
	kind, gate, _ := p.g.Node(n)
	return gate, kind == 2
}

// of: the literal of a graph's literal.
func (p plain) of(l uint32) int {
	v := slices.Index(p.cone, int(l/2)) + 1
	if l%2 == 1 {
		v = -v
	}
	return v
}

func (p plain) wanted() map[uint32]bool {
	set := map[uint32]bool{}
	for _, l := range p.roots {
		set[l] = true
	}
	for size := -1; size != len(set); {
		size = len(set)
		for _, n := range p.cone {
			gate, isGate := p.gate(n)
			even := uint32(2 * n)
			if isGate && set[even] {
				set[gate.A], set[gate.B] = true, true
			}
			if isGate && set[even+1] {
				set[aig.Not(gate.A)], set[aig.Not(gate.B)] = true, true
			}
		}
	}
	return set
}

// formula: of all clauses, or of those that are wanted.
func (p plain) formula(all bool) api.Formula {
	f := api.Formula{Vars: len(p.cone)}
	wanted := p.wanted()
	for _, node := range p.cone {
		gate, isGate := p.gate(node)
		if !isGate {
			continue
		}
		even := uint32(2 * node)
		n, a, b := p.of(even), p.of(gate.A), p.of(gate.B)
		if all || wanted[even] {
			f.Clauses = append(f.Clauses, api.Clause{-n, a}, api.Clause{-n, b})
		}
		if all || wanted[even+1] {
			f.Clauses = append(f.Clauses, api.Clause{n, -a, -b})
		}
	}
	for _, l := range p.roots {
		if l == 0 {
			f.Clauses = append(f.Clauses, api.Clause{})
		} else if l > 1 {
			f.Clauses = append(f.Clauses, api.Clause{p.of(l)})
		}
	}
	return f
}

// settings: all lists of n bools.
func settings(n int) [][]bool {
	var all [][]bool
	for k := range 1 << n {
		row := make([]bool, n)
		for i := range row {
			row[i] = k>>i&1 == 1
		}
		all = append(all, row)
	}
	return all
}

// assignments: all that give each of n variables a value.
func assignments(n int) [][]int8 {
	var all [][]int8
	for _, row := range settings(n) {
		m := make([]int8, n)
		for i, v := range row {
			m[i] = -1
			if v {
				m[i] = 1
			}
		}
		all = append(all, m)
	}
	return all
}

// allTrue: whether all roots are, with the inputs.
func allTrue(t testing.TB, g *aig.Graph, roots []uint32, in []bool) bool {
	t.Helper()
	return !slices.Contains(must[[]bool](t)(g.Eval(in, roots)), false)
}
