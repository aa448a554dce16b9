package blast

import (
	"fmt"
	"slices"
	"testing"

	"cadence/aig"
	"cadence/api"
	"cadence/term"
)

// P1102: inputs stand in the order of term.Order, not in that of the terms' numbers.
func TestOrder(t *testing.T) {
	text := "1 var a 1\n2 var b 2\n3 var p 0\n4 zext 1 2\n5 add 2 4\n6 ite 3 5 2\nroots 6\n"
	s, roots := newStore(t, text)
	b, g := newBlaster(t, s)
	must[[]uint32](t)(b.Bits(roots[0]))
	is(t, "Inputs", b.Inputs(), "[{p 0 0} {b 2 0} {b 2 1} {a 1 0}]")
	is(t, "inputs of the graph", g.Inputs(), 4)
	is(t, "p", must[[]uint32](t)(b.Bits(3)), "[2]")
	is(t, "b", must[[]uint32](t)(b.Bits(2)), "[4 6]")
	is(t, "a", must[[]uint32](t)(b.Bits(1)), "[8]")

	b, _ = newBlaster(t, s)
	is(t, "a first", must[[]uint32](t)(b.Bits(1)), "[2]")
	must[[]uint32](t)(b.Bits(roots[0]))
	is(t, "a is known", b.Inputs(), "[{a 1 0} {p 0 0} {b 2 0} {b 2 1}]")
}

// A part that is known, but stands behind one that is not.
func TestKnownPart(t *testing.T) {
	s, roots := newStore(t, "1 var a 1\n2 var b 1\n3 com 2\n4 bxor 1 3\n5 cat 4 2\nroots 5 3\n")
	b, _ := newBlaster(t, s)
	must[[]uint32](t)(b.Bits(roots[1]))
	is(t, "b alone", b.Inputs(), "[{b 1 0}]")
	must[[]uint32](t)(b.Bits(roots[0]))
	is(t, "then a", b.Inputs(), "[{b 1 0} {a 1 0}]")
}

// A term has its literals once and for all.
func TestTwice(t *testing.T) {
	p := picker(21)
	s := grown(t, &p, 100)
	b, g := newBlaster(t, s)
	var first [][]uint32
	for n := 1; n <= s.Len(); n++ {
		first = append(first, must[[]uint32](t)(b.Bits(n)))
	}
	nodes, inputs := g.Nodes(), b.Inputs()
	for n := s.Len(); n >= 1; n-- {
		is(t, "asked for again", must[[]uint32](t)(b.Bits(n)), first[n-1])
	}
	is(t, "nothing new", []any{g.Nodes(), b.Inputs()}, []any{nodes, inputs})
}

// Of a truth there is one literal, of a word as many as it has bits.
func TestLengths(t *testing.T) {
	p := picker(22)
	s := grown(t, &p, 300)
	b, _ := newBlaster(t, s)
	for n := 1; n <= s.Len(); n++ {
		is(t, "literals", len(must[[]uint32](t)(b.Bits(n))), max(1, node(s, n).W))
	}
}

// The order in which terms are asked for is that of what is made: the same terms, from the last one on.
func TestOrders(t *testing.T) {
	p := picker(23)
	for range 20 {
		s := grown(t, &p, 60)
		asked := make([]int, s.Len())
		for i := range asked {
			asked[i] = i + 1
		}
		for range 3 {
			h := newHolding(t, s, aig.New())
			for _, n := range asked {
				h.bits(n)
			}
			h.end()
			means(t, &p, s, h.g, h.b, asked...)
			slices.Reverse(asked)
			for i := range asked {
				j := i + p.below(len(asked)-i)
				asked[i], asked[j] = asked[j], asked[i]
			}
		}
	}
}

// Terms that are made in the store after the blaster, and after others were asked for.
func TestLaterTerms(t *testing.T) {
	s := must[*term.Store](t)(term.New(0))
	h := newHolding(t, s, aig.New())
	x := must[int](t)(s.Var("x", 4))
	_, e := h.bits(2)
	is(t, "not made yet", e, api.ErrTerm)
	h.bits(x)
	y := must[int](t)(s.Var("y", 4))
	sum := must[int](t)(s.Bin(api.OpAdd, x, y))
	h.bits(sum)
	product := must[int](t)(s.Bin(api.OpMul, sum, sum))
	h.bits(product)
	h.end()
	p := picker(24)
	means(t, &p, s, h.g, h.b, sum, product)
}

// A graph that had inputs and gates of its own ahead, some of them like those of the terms.
func TestGraphOfItsOwn(t *testing.T) {
	s, roots := newStore(t, "1 var p 0\n2 var q 0\n3 and 1 2\n4 xor 1 2\nroots 3 4\n")
	g := aig.New()
	for range 3 {
		must[uint32](t)(g.Input())
	}
	must[uint32](t)(g.Xor(2, 4))
	h := newHolding(t, s, g)
	is(t, "nothing of it is the blaster's", len(h.b.Inputs()), 0)
	h.bits(roots[0])
	is(t, "Inputs", h.b.Inputs(), "[{p 0 0} {q 0 0}]")
	is(t, "p", must[[]uint32](t)(h.b.Bits(1)), "[14]")
	is(t, "q", must[[]uint32](t)(h.b.Bits(2)), "[16]")
	must[uint32](t)(g.Input()) // somebody else's, between
	must[uint32](t)(g.Xor(14, 16))
	nodes := g.Nodes()
	is(t, "a gate that is there", must[[]uint32](t)(h.b.Bits(4)), fmt.Sprint([]int{2 * (nodes - 1)}))
	is(t, "no new one", g.Nodes(), nodes)
	is(t, "Lift of its own inputs alone", must[[]api.Value](t)(h.b.Lift([]bool{false, true})), "[{p 0 0} {q 0 1}]")
	_, e := h.b.Lift(make([]bool, g.Inputs()))
	is(t, "Lift of all of the graph's", e, api.ErrArg)
}

// Mixed terms over a graph in which others make nodes too.
func TestMixedAmongOthers(t *testing.T) {
	p := picker(25)
	for range 30 {
		s := grown(t, &p, 60)
		g := aig.New()
		lits := []uint32{0, 1}
		for range 20 {
			if p.below(2) == 0 {
				lits = append(lits, must[uint32](t)(g.Input()))
			} else {
				lits = append(lits, must[uint32](t)(g.Xor(pickOf(&p, lits...), pickOf(&p, lits...))))
			}
		}
		h := newHolding(t, s, g)
		for range 10 {
			h.bits(1 + p.below(s.Len()))
		}
		h.end()
	}
}

// Two blasters over one graph, and over one store: each has inputs of its own.
func TestTwoBlasters(t *testing.T) {
	s, _ := newStore(t, "1 var x 2\n2 com 1\n3 add 1 2\nroots 3\n")
	g := aig.New()
	b, c := must[*Blaster](t)(New(s, g)), must[*Blaster](t)(New(s, g))
	is(t, "x of the first", must[[]uint32](t)(b.Bits(1)), "[2 4]")
	is(t, "the second has none", len(c.Inputs()), 0)
	is(t, "x of the second", must[[]uint32](t)(c.Bits(1)), "[6 8]")
	is(t, "com", must[[]uint32](t)(b.Bits(2)), "[3 5]")
	is(t, "com", must[[]uint32](t)(c.Bits(2)), "[7 9]")
	for _, x := range []*Blaster{b, c} {
		is(t, "Inputs", x.Inputs(), "[{x 2 0} {x 2 1}]")
		is(t, "Lift", must[[]api.Value](t)(x.Lift([]bool{false, true})), "[{x 2 2}]")
		_, e := x.Lift(make([]bool, 4))
		is(t, "Lift of both", e, api.ErrArg)
	}
	first, second := must[[]uint32](t)(b.Bits(3)), must[[]uint32](t)(c.Bits(3))
	out := must[[]bool](t)(g.Eval([]bool{true, false, false, true}, append(first, second...)))
	is(t, "x + com x", out, "[true true true true]")

	other, _ := newStore(t, "1 var x 0\nroots 1\n")
	d := must[*Blaster](t)(New(other, g))
	nodes := g.Nodes()
	is(t, "of another store", must[[]uint32](t)(d.Bits(1)), fmt.Sprint([]int{2 * nodes}))
	is(t, "its Inputs", d.Inputs(), "[{x 0 0}]")
	is(t, "those of the first", b.Inputs(), "[{x 2 0} {x 2 1}]")
}

// One store, two graphs: what the one blaster knows the other one does not.
func TestTwoGraphs(t *testing.T) {
	s, _ := newStore(t, "1 var x 1\n2 var y 1\n3 band 1 2\nroots 3\n")
	b, g := newBlaster(t, s)
	c, h := newBlaster(t, s)
	is(t, "first", must[[]uint32](t)(b.Bits(3)), "[6]")
	is(t, "the other graph", h.Nodes(), 1)
	is(t, "y first", must[[]uint32](t)(c.Bits(2)), "[2]")
	is(t, "second", must[[]uint32](t)(c.Bits(3)), "[6]")
	is(t, "first graph", look(t, g, 0), "0 i0 i1 2*4")
	is(t, "second graph", look(t, h, 0), "0 i0 i1 4*2")
}

// Terms of which each has two times the one ahead as its parts: a tree would be far too great.
func TestShared(t *testing.T) {
	s := must[*term.Store](t)(term.New(0))
	x := must[int](t)(s.Var("x", 8))
	n := x
	for range 300 {
		n = must[int](t)(s.Bin(api.OpAdd, n, n))
	}
	h := newHolding(t, s, aig.New())
	h.bits(n)
	is(t, "all is shifted out", must[[]uint32](t)(h.b.Bits(n)), "[0 0 0 0 0 0 0 0]")
	c := must[int](t)(s.Var("c", 0))
	for range 5000 {
		x = must[int](t)(s.Ite(c, x, x))
		x = must[int](t)(s.Bin(api.OpBxor, x, x))
	}
	h.bits(x)
	h.end()
}

// Very deep terms, asked for at once, and from the lowest on.
func TestDeep(t *testing.T) {
	const deep = 1 << 20
	s := must[*term.Store](t)(term.New(0))
	n := must[int](t)(s.Var("p", 0))
	for range deep {
		n = must[int](t)(s.Un(api.OpNot, n))
	}
	b, g := newBlaster(t, s)
	is(t, "at once", must[[]uint32](t)(b.Bits(n)), "[2]")
	is(t, "one less", must[[]uint32](t)(b.Bits(n-1)), "[3]")
	is(t, "nodes", g.Nodes(), 2)
	b, _ = newBlaster(t, s)
	for n := 1; n <= s.Len(); n++ {
		if l, e := b.Bits(n); e != api.OK || len(l) != 1 || l[0] != uint32(2+(n+1)%2) {
			t.Fatalf("Bits(%d): %v %d", n, l, e)
		}
	}
}

// Deep ones with gates, in their parts A, B and C.
func TestDeepGates(t *testing.T) {
	s := must[*term.Store](t)(term.New(0))
	n := must[int](t)(s.Var("x0", 2))
	for i := range 1 << 16 {
		x := must[int](t)(s.Var(fmt.Sprint("x", i%100), 2))
		p := must[int](t)(s.Bin(api.OpUlt, x, n))
		switch i % 3 {
		case 0:
			n = must[int](t)(s.Bin(api.OpAdd, n, x))
		case 1:
			n = must[int](t)(s.Bin(api.OpSub, x, n))
		default:
			n = must[int](t)(s.Ite(p, x, n))
		}
	}
	h := newHolding(t, s, aig.New())
	h.bits(n)
	h.end()
	p := picker(26)
	means(t, &p, s, h.g, h.b, n)
}
