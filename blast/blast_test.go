package blast

import (
	"fmt"
	"math"
	"testing"

	"cadence/aig"
	"cadence/api"
	"cadence/term"
)

// P1101.
func TestNew(t *testing.T) {
	s := must[*term.Store](t)(term.New(0))
	g := aig.New()
	for _, c := range []struct {
		s *term.Store
		g *aig.Graph
	}{{nil, g}, {s, nil}, {nil, nil}} {
		b, e := New(c.s, c.g)
		is(t, "New of nil", []any{b == nil, e}, []any{true, api.ErrNil})
	}
	b, e := New(s, g)
	is(t, "New", []any{b != nil, e}, []any{true, api.OK})
	is(t, "Inputs of a new one", len(b.Inputs()), 0)
	is(t, "nothing is made", []int{g.Nodes(), g.Inputs(), s.Len()}, []int{1, 0, 0})
	_, e = b.Bits(1)
	is(t, "a store without a term", e, api.ErrTerm)
	for _, in := range [][]bool{nil, {}} {
		v, e := b.Lift(in)
		is(t, "Lift of no inputs", []any{len(v), e}, []any{0, api.OK})
	}
	_, e = b.Lift([]bool{true})
	is(t, "Lift of one too many", e, api.ErrArg)
}

// A store and a graph that no call made have nothing in them.
func TestZeroObjects(t *testing.T) {
	b := must[*Blaster](t)(New(&term.Store{}, &aig.Graph{}))
	_, e := b.Bits(1)
	is(t, "Bits", e, api.ErrTerm)
	is(t, "term", must[int](t)(b.store.Var("k", 2)), 1)
	is(t, "Bits", must[[]uint32](t)(b.Bits(1)), "[2 4]")
}

// The chapter's examples.
func TestExamples(t *testing.T) {
	s := must[*term.Store](t)(term.New(0))
	k := must[int](t)(s.Var("k", 2))
	one := must[int](t)(s.Const(2, 1))
	sum := must[int](t)(s.Bin(api.OpAdd, k, one))
	b, g := newBlaster(t, s)
	is(t, "Bits(k)", must[[]uint32](t)(b.Bits(k)), "[2 4]")
	is(t, "Bits(1)", must[[]uint32](t)(b.Bits(one)), "[1 0]")
	is(t, "no gate yet", look(t, g, 0), "0 i0 i1")
	is(t, "Bits(add k 1)", must[[]uint32](t)(b.Bits(sum)), "[3 10]")
	is(t, "gates", look(t, g, 3), "4*2 5*3 7*9 2*4") // Xor(4, 2), then And(c, p)
	is(t, "Inputs", b.Inputs(), "[{k 2 0} {k 2 1}]")
	is(t, "Lift", must[[]api.Value](t)(b.Lift([]bool{true, false})), "[{k 2 1}]")
	v, e := b.Lift([]bool{true})
	is(t, "Lift of too few", []any{len(v), e}, []any{0, api.ErrArg})
	l, e := b.Bits(9)
	is(t, "Bits(9)", []any{len(l), e}, []any{0, api.ErrTerm})
}

// P1102: ErrTerm, and nothing is made.
func TestNoTerm(t *testing.T) {
	s, _ := newStore(t, "1 var k 2\n2 com 1\nroots 2\n")
	b, g := newBlaster(t, s)
	for _, n := range []int{0, -1, 3, 9, math.MinInt, math.MaxInt, math.MaxInt32, 1 << 32, 1<<32 + 1} {
		l, e := b.Bits(n)
		is(t, fmt.Sprint("Bits of ", n), []any{len(l), e, g.Nodes(), len(b.Inputs())}, []any{0, api.ErrTerm, 1, 0})
	}
	is(t, "the last one", must[[]uint32](t)(b.Bits(2)), "[3 5]")
	_, e := b.Bits(3)
	is(t, "just beyond it", e, api.ErrTerm)
	must[int](t)(s.Un(api.OpNeg, 1))
	must[[]uint32](t)(b.Bits(3))
}

// handMade: what a text's terms become by the chapter's words, gone through by hand; of each root the vector of the last one is told.
var handMade = []struct{ text, nodes, vector string }{
	{"1 true\nroots 1\n", "", "[1]"},
	{"1 false\nroots 1\n", "", "[0]"},
	{"1 const 1 1\nroots 1\n", "", "[1]"},
	{"1 const 4 6\nroots 1\n", "", "[0 1 1 0]"},
	{"1 var p 0\nroots 1\n", "i0", "[2]"},
	{"1 var k 1\nroots 1\n", "i0", "[2]"},
	{"1 var k 3\nroots 1\n", "i0 i1 i2", "[2 4 6]"},
	{"1 var p 0\n2 not 1\nroots 2\n", "i0", "[3]"},
	{"1 var p 0\n2 var q 0\n3 and 1 2\nroots 3\n", "i0 i1 2*4", "[6]"},
	{"1 var p 0\n2 var q 0\n3 or 1 2\nroots 3\n", "i0 i1 3*5", "[7]"},
	{"1 var p 0\n2 var q 0\n3 xor 1 2\nroots 3\n", "i0 i1 2*4 3*5 7*9", "[10]"},
	{"1 var p 0\n2 var q 0\n3 eq 1 2\nroots 3\n", "i0 i1 2*4 3*5 7*9", "[11]"},
	{"1 var x 2\n2 var y 2\n3 eq 1 2\nroots 3\n", "i0 i1 i2 i3 2*6 3*7 11*13 4*8 5*9 17*19 15*21", "[22]"},
	{"1 var x 1\n2 var y 1\n3 ult 1 2\nroots 3\n", "i0 i1 2*4 3*5 7*9 10*4", "[12]"},
	{"1 var x 1\n2 var y 1\n3 ule 1 2\nroots 3\n", "i0 i1 4*2 5*3 7*9 10*2", "[13]"},
	{"1 var x 1\n2 var y 1\n3 slt 1 2\nroots 3\n", "i0 i1 3*5 2*4 7*9 10*5", "[12]"},
	{"1 var x 1\n2 var y 1\n3 sle 1 2\nroots 3\n", "i0 i1 5*3 4*2 7*9 10*3", "[13]"},
	{"1 var c 0\n2 var p 0\n3 var q 0\n4 ite 1 2 3\nroots 4\n", "i0 i1 i2 2*4 3*6 9*11", "[13]"},
	{"1 var c 0\n2 var x 2\n3 const 2 1\n4 ite 1 2 3\nroots 4\n", "i0 i1 i2 2*4 9*2 2*6", "[11 12]"},
	{"1 var x 2\n2 com 1\nroots 2\n", "i0 i1", "[3 5]"},
	{"1 var x 2\n2 neg 1\nroots 2\n", "i0 i1 5*3 4*2 7*9 3*5", "[2 10]"},
	{"1 var x 2\n2 var y 2\n3 band 1 2\nroots 3\n", "i0 i1 i2 i3 2*6 4*8", "[10 12]"},
	{"1 var x 2\n2 var y 2\n3 bor 1 2\nroots 3\n", "i0 i1 i2 i3 3*7 5*9", "[11 13]"},
	{"1 var x 2\n2 var y 2\n3 bxor 1 2\nroots 3\n", "i0 i1 i2 i3 2*6 3*7 11*13 4*8 5*9 17*19", "[14 20]"},
	{"1 var x 2\n2 var y 2\n3 add 1 2\nroots 3\n", "i0 i1 i2 i3 2*6 3*7 11*13 4*8 5*9 17*19 20*10 21*11 23*25 10*20 17*29", "[14 26]"},
	{"1 var x 1\n2 var y 1\n3 sub 1 2\nroots 3\n", "i0 i1 2*5 3*4 7*9 7*11", "[11]"},
	{"1 var x 2\n2 var y 2\n3 mul 1 2\nroots 3\n", "i0 i1 i2 i3 2*6 4*6 2*8 12*14 13*15 17*19", "[10 20]"},
	{"1 var x 1\n2 var y 1\n3 div 1 2\nroots 3\n", "i0 i1 2*4 3*5 7*9 10*4 2*5 3*4 15*17 15*19 13*19 12*2 23*25 13*20", "[13]"},
	{"1 var x 1\n2 var y 1\n3 rem 1 2\nroots 3\n", "i0 i1 2*4 3*5 7*9 10*4 2*5 3*4 15*17 15*19 13*19 12*2 23*25 13*20", "[27]"},
	{"1 var x 1\n2 var y 1\n3 shl 1 2\nroots 3\n", "i0 i1", "[2]"},
	{"1 var x 2\n2 var y 2\n3 shl 1 2\nroots 3\n", "i0 i1 i2 i3 7*2 6*2 7*4 13*15", "[10 17]"},
	{"1 var x 2\n2 var y 2\n3 shr 1 2\nroots 3\n", "i0 i1 i2 i3 6*4 7*2 11*13 7*4", "[15 16]"},
	{"1 var x 2\n2 var y 2\n3 sar 1 2\nroots 3\n", "i0 i1 i2 i3 6*4 7*2 11*13", "[15 4]"},
	{"1 var x 2\n2 var y 2\n3 rol 1 2\nroots 3\n", "i0 i1 i2 i3 6*4 7*2 11*13 6*2 7*4 17*19", "[15 21]"},
	{"1 var x 2\n2 var y 2\n3 ror 1 2\nroots 3\n", "i0 i1 i2 i3 6*4 7*2 11*13 6*2 7*4 17*19", "[15 21]"},
	{"1 var x 4\n2 const 4 1\n3 rol 1 2\nroots 3\n", "i0 i1 i2 i3", "[8 2 4 6]"},
	{"1 var x 4\n2 const 4 1\n3 ror 1 2\nroots 3\n", "i0 i1 i2 i3", "[4 6 8 2]"},
	{"1 var x 4\n2 const 4 3\n3 shl 1 2\nroots 3\n", "i0 i1 i2 i3", "[0 0 0 2]"},
	{"1 var x 4\n2 const 4 6\n3 shr 1 2\nroots 3\n", "i0 i1 i2 i3", "[6 8 0 0]"},
	{"1 var x 4\n2 const 4 15\n3 sar 1 2\nroots 3\n", "i0 i1 i2 i3", "[8 8 8 8]"},
	{"1 var x 4\n2 const 4 12\n3 sar 1 2\nroots 3\n", "i0 i1 i2 i3", "[2 4 6 8]"},
	{"1 var x 2\n2 var y 1\n3 cat 1 2\nroots 3\n", "i0 i1 i2", "[6 2 4]"},
	{"1 var y 1\n2 var x 2\n3 cat 1 2\nroots 3\n", "i0 i1 i2", "[4 6 2]"},
	{"1 var x 4\n2 slice 1 0 2\nroots 2\n", "i0 i1 i2 i3", "[2 4]"},
	{"1 var x 4\n2 slice 1 3 1\nroots 2\n", "i0 i1 i2 i3", "[8]"},
	{"1 var x 4\n2 slice 1 1 3\nroots 2\n", "i0 i1 i2 i3", "[4 6 8]"},
	{"1 var x 4\n2 slice 1 0 4\nroots 2\n", "i0 i1 i2 i3", "[2 4 6 8]"},
	{"1 var x 2\n2 zext 1 2\nroots 2\n", "i0 i1", "[2 4]"},
	{"1 var x 2\n2 zext 1 5\nroots 2\n", "i0 i1", "[2 4 0 0 0]"},
	{"1 var x 2\n2 sext 1 2\nroots 2\n", "i0 i1", "[2 4]"},
	{"1 var x 2\n2 sext 1 5\nroots 2\n", "i0 i1", "[2 4 4 4 4]"},
}

// P1102: the table.
func TestHandMade(t *testing.T) {
	for _, c := range handMade {
		nodes, l := gatesOf(t, c.text)
		is(t, c.text+": vector", l, c.vector)
		is(t, c.text+": nodes", nodes, c.nodes)
	}
}
