package aig

import (
	"fmt"
	"slices"
	"strings"
	"testing"

	"cadence/api"
)

// picker tells numbers that look like chance, the same ones in each run.
type picker uint64

func (p *picker) next() uint64 {
	*p ^= *p << 13
	*p ^= *p >> 7
	*p ^= *p << 17
	return uint64(*p)
}

func (p *picker) below(n int) int { return int(p.next() >> 11 % uint64(n)) }

// same: what was answered is what the chapter says.
func same(t testing.TB, what string, got, want any) {
	t.Helper()
	if fmt.Sprint(got) != fmt.Sprint(want) {
		t.Fatalf("%s: %v, not %v", what, got, want)
	}
}

// must: a literal that may not be refused.
func must(t testing.TB) func(l uint32, e api.Errno) uint32 {
	return func(l uint32, e api.Errno) uint32 {
		t.Helper()
		if e != api.OK {
			t.Fatalf("refused: %d", e)
		}
		return l
	}
}

// graphOf: a graph of so many inputs.
func graphOf(t testing.TB, inputs int) *Graph {
	t.Helper()
	g := New()
	for range inputs {
		must(t)(g.Input())
	}
	return g
}

// look: all that is told of a graph's nodes, as text: false is 0, an input i0, a gate 2*4.
func look(t testing.TB, g *Graph) string {
	t.Helper()
	var words []string
	for n := range g.Nodes() {
		kind, gate, e := g.Node(n)
		switch {
		case e != api.OK:
			t.Fatalf("Node(%d) of %d: %d", n, g.Nodes(), e)
		case kind == 0 && gate == api.Gate{}:
			words = append(words, "0")
		case kind == 1 && gate.B == 0:
			words = append(words, fmt.Sprintf("i%d", gate.A))
		case kind == 2:
			words = append(words, fmt.Sprintf("%d*%d", gate.A, gate.B))
		default:
			t.Fatalf("Node(%d): %d %v", n, kind, gate)
		}
	}
	return strings.Join(words, " ")
}

// plain is a graph as the chapter tells it: a list of nodes, gone through from its front, and by recursion.
type plain struct {
	kinds []int // of node 0 too
	gates []api.Gate
}

func newPlain(inputs int) *plain {
	p := &plain{[]int{0}, []api.Gate{{}}}
	for range inputs {
		p.input()
	}
	return p
}

func (p *plain) put(kind int, gate api.Gate) uint32 {
	p.kinds, p.gates = append(p.kinds, kind), append(p.gates, gate)
	return uint32(2 * (len(p.kinds) - 1))
}

func (p *plain) inputs() int {
	n := 0
	for _, k := range p.kinds {
		if k == 1 {
			n++
		}
	}
	return n
}

func (p *plain) input() uint32 { return p.put(1, api.Gate{A: uint32(p.inputs())}) }

func (p *plain) and(a, b uint32) uint32 {
	opposite := a/2 == b/2 && a != b
	if a == 0 || b == 0 || opposite {
		return 0
	}
	if a == 1 || a == b {
		return b
	}
	if b == 1 {
		return a
	}
	for n := range p.kinds {
		if p.kinds[n] == 2 && p.gates[n].A == a && p.gates[n].B == b {
			return uint32(2 * n)
		}
	}
	return p.put(2, api.Gate{A: a, B: b})
}

// not: of a pair of literals 2 n and 2 n + 1 the other one.
func not(l uint32) uint32 {
	if l%2 == 0 {
		return l + 1
	}
	return l - 1
}

func (p *plain) or(a, b uint32) uint32 { return not(p.and(not(a), not(b))) }

func (p *plain) xor(a, b uint32) uint32 {
	x := p.and(a, b)
	y := p.and(not(a), not(b))
	return p.and(not(x), not(y))
}

func (p *plain) mux(c, a, b uint32) uint32 {
	if a == b {
		return a
	}
	x := p.and(c, a)
	y := p.and(not(c), b)
	return p.or(x, y)
}

func (p *plain) all(l []uint32) uint32 {
	if len(l) == 0 {
		return 1
	}
	x := l[0]
	for _, y := range l[1:] {
		x = p.and(x, y)
	}
	return x
}

func (p *plain) cone(roots []uint32) []int {
	var out []int
	var meet func(l uint32)
	meet = func(l uint32) {
		n := int(l / 2)
		if n == 0 || slices.Contains(out, n) {
			return
		}
		if p.kinds[n] == 2 {
			meet(p.gates[n].A)
			meet(p.gates[n].B)
		}
		out = append(out, n)
	}
	for _, l := range roots {
		meet(l)
	}
	return out
}

func (p *plain) depth(roots []uint32) int {
	depths := make([]int, len(p.kinds))
	for n, gate := range p.gates {
		if p.kinds[n] == 2 {
			depths[n] = 1 + max(depths[gate.A/2], depths[gate.B/2])
		}
	}
	most := 0
	for _, l := range roots {
		most = max(most, depths[l/2])
	}
	return most
}

func (p *plain) values(in []bool, roots []uint32) []bool {
	nodes := make([]bool, len(p.kinds))
	of := func(l uint32) bool { return nodes[l/2] != (l%2 == 1) }
	for n, gate := range p.gates {
		switch p.kinds[n] {
		case 1:
			nodes[n] = in[gate.A]
		case 2:
			nodes[n] = of(gate.A) && of(gate.B)
		}
	}
	var out []bool
	for _, l := range roots {
		out = append(out, of(l))
	}
	return out
}

// lay: h's cone in p.
func (p *plain) lay(h *plain, in, roots []uint32) []uint32 {
	made := map[int]uint32{}
	of := func(l uint32) uint32 {
		x := made[int(l/2)]
		if l%2 == 1 {
			x = not(x)
		}
		return x
	}
	for _, n := range h.cone(roots) {
		if h.kinds[n] == 1 {
			made[n] = in[h.gates[n].A]
		} else {
			made[n] = p.and(of(h.gates[n].A), of(h.gates[n].B))
		}
	}
	var out []uint32
	for _, l := range roots {
		out = append(out, of(l))
	}
	return out
}

func (p *plain) print(roots []uint32) string {
	variables := map[uint32]uint32{}
	for n, k := range p.kinds {
		if k == 1 {
			variables[uint32(n)] = p.gates[n].A + 1
		}
	}
	inputs := len(variables)
	var gates []int
	for _, n := range p.cone(roots) {
		if p.kinds[n] == 2 {
			gates = append(gates, n)
			variables[uint32(n)] = uint32(inputs + len(gates))
		}
	}
	of := func(l uint32) uint32 { return 2*variables[l/2] + l%2 }
	var b strings.Builder
	fmt.Fprintf(&b, "aag %d %d 0 %d %d\n", inputs+len(gates), inputs, len(roots), len(gates))
	for i := range inputs {
		fmt.Fprintf(&b, "%d\n", 2*i+2)
	}
	for _, l := range roots {
		fmt.Fprintf(&b, "%d\n", of(l))
	}
	for _, n := range gates {
		fmt.Fprintf(&b, "%d %d %d\n", of(uint32(2*n)), of(p.gates[n].A), of(p.gates[n].B))
	}
	return b.String()
}

// look: as look of a graph.
func (p *plain) look() string {
	var words []string
	for n, gate := range p.gates {
		words = append(words, []string{"0", fmt.Sprintf("i%d", gate.A), fmt.Sprintf("%d*%d", gate.A, gate.B)}[p.kinds[n]])
	}
	return strings.Join(words, " ")
}

// literal: one that may be, the later ones more often.
func (p *plain) literal(r *picker) uint32 {
	n := max(r.below(len(p.kinds)), r.below(len(p.kinds)))
	return uint32(2*n + r.below(2))
}

func (p *plain) literals(r *picker, n int) []uint32 {
	out := []uint32{}
	for range n {
		out = append(out, p.literal(r))
	}
	return out
}

// grow: one more input or some more gates, the same in both, and the same literal of them.
func grow(t testing.TB, r *picker, g *Graph, p *plain) {
	t.Helper()
	a, b, c := p.literal(r), p.literal(r), p.literal(r)
	l := p.literals(r, r.below(5))
	var got, want uint32
	switch r.below(10) {
	case 0:
		got, want = must(t)(g.Input()), p.input()
	case 1, 2, 3, 4:
		got, want = must(t)(g.And(a, b)), p.and(a, b)
	case 5:
		got, want = must(t)(g.Or(a, b)), p.or(a, b)
	case 6, 7:
		got, want = must(t)(g.Xor(a, b)), p.xor(a, b)
	case 8:
		got, want = must(t)(g.Mux(c, a, b)), p.mux(c, a, b)
	case 9:
		got, want = must(t)(g.All(l)), p.all(l)
	}
	same(t, "made", got, want)
}

// grown: a graph of some inputs and gates, and the plain one that is like it.
func grown(t testing.TB, r *picker, inputs, calls int) (*Graph, *plain) {
	t.Helper()
	g, p := graphOf(t, inputs), newPlain(inputs)
	for range calls {
		grow(t, r, g, p)
	}
	return g, p
}

func bools(r *picker, n int) []bool {
	out := []bool{}
	for range n {
		out = append(out, r.below(2) == 1)
	}
	return out
}

// rows: of n words, each bit by chance.
func rows(r *picker, n int) []uint64 {
	out := []uint64{}
	for range n {
		out = append(out, r.next()^r.next()<<32)
	}
	return out
}

// row: the bit k of each word.
func row(words []uint64, k int) []bool {
	out := []bool{}
	for _, w := range words {
		out = append(out, w>>k&1 == 1)
	}
	return out
}
