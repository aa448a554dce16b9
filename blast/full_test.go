package blast

import (
	"testing"

	"cadence/aig"
	"cadence/api"
)

// nearlyFull: a graph of inputs, with room for so many nodes more.
func nearlyFull(t testing.TB, room int) *aig.Graph {
	t.Helper()
	g := aig.New()
	for g.Nodes() < api.MaxNodes-room {
		if _, e := g.Input(); e != api.OK {
			t.Fatalf("Input: %d of %d nodes", e, g.Nodes())
		}
	}
	return g
}

// P1102: ErrSize; what was made by then stays; what is asked for behind it.
func TestNoRoom(t *testing.T) {
	t.Parallel()
	s, _ := newStore(t, "1 var x 2\n2 var y 2\n3 add 1 2\n4 var z 8\n5 band 1 2\n6 com 2\n7 const 8 5\n8 var p 0\n9 cat 4 6\nroots 3\n")
	g := nearlyFull(t, 12)
	h := newHolding(t, s, g)
	refused := func(n, nodes int, inputs string) {
		t.Helper()
		l, e := h.bits(n)
		is(t, "no room", []any{len(l), e}, []any{0, api.ErrSize})
		is(t, "what stays", []any{g.Nodes(), h.b.Inputs()}, []any{nodes, inputs})
	}
	four := "[{x 2 0} {x 2 1} {y 2 0} {y 2 1}]"
	// Four inputs; p of the bit 0 has three gates, p of the bit 1 too: two are left, and Xor(p, c) has three.
	refused(3, api.MaxNodes-2, four)
	refused(3, api.MaxNodes-2, four)
	h.bits(1)
	h.bits(6)
	h.bits(7)
	refused(4, api.MaxNodes, "[{x 2 0} {x 2 1} {y 2 0} {y 2 1} {z 8 0} {z 8 1}]")
	refused(4, api.MaxNodes, "[{x 2 0} {x 2 1} {y 2 0} {y 2 1} {z 8 0} {z 8 1}]")
	refused(9, api.MaxNodes, "[{x 2 0} {x 2 1} {y 2 0} {y 2 1} {z 8 0} {z 8 1}]")
	refused(8, api.MaxNodes, "[{x 2 0} {x 2 1} {y 2 0} {y 2 1} {z 8 0} {z 8 1}]")
	_, e := h.bits(5)
	is(t, "gates that are there", e, api.OK)
	_, e = h.bits(10)
	is(t, "no term", e, api.ErrTerm)
	h.end()
	is(t, "Lift", must[[]api.Value](t)(h.b.Lift([]bool{true, false, false, true, false, true})), "[{x 2 1} {y 2 2} {z 8 2}]")
	_, e = h.b.Lift(make([]bool, 12))
	is(t, "Lift of z's other bits too", e, api.ErrArg)

	later := must[*Blaster](t)(New(s, g))
	for _, n := range []int{1, 2, 3, 4, 5, 6, 8, 9} {
		_, e := later.Bits(n)
		is(t, "a full graph", e, api.ErrSize)
	}
	is(t, "a constant needs none", must[[]uint32](t)(later.Bits(7)), "[1 0 1 0 0 0 0 0]")
	is(t, "Inputs", len(later.Inputs()), 0)
	v, e := later.Lift(nil)
	is(t, "Lift", []any{len(v), e}, []any{0, api.OK})
}

// No gate is made behind the first refusal, though there would be room for a lesser one.
func TestNothingBehind(t *testing.T) {
	t.Parallel()
	s, _ := newStore(t, "1 var p 0\n2 var q 0\n3 xor 1 2\n4 and 3 2\n5 and 1 2\n6 or 1 2\nroots 4\n")
	g := nearlyFull(t, 4)
	h := newHolding(t, s, g)
	for range 2 {
		_, e := h.bits(4)
		is(t, "no room", e, api.ErrSize)
		is(t, "the inputs alone", g.Nodes(), api.MaxNodes-2)
	}
	h.bits(5)
	h.bits(6)
	is(t, "what has room", g.Nodes(), api.MaxNodes)
	_, e := h.bits(4)
	is(t, "one gate is not there", e, api.ErrSize)
	h.end()
}

// Mixed terms, asked for until nothing has room.
func TestNoRoomMixed(t *testing.T) {
	t.Parallel()
	p := picker(51)
	for _, room := range []int{40, 333} {
		h := newHolding(t, grown(t, &p, 150), nearlyFull(t, room))
		refused := 0
		for range 150 {
			if _, e := h.bits(1 + p.below(h.s.Len())); e == api.ErrSize {
				refused++
			}
		}
		h.end()
		if refused < 10 || refused > 140 {
			t.Fatal(refused)
		}
	}
}

// Just as much room as is needed, and one node less.
func TestJustRoom(t *testing.T) {
	t.Parallel()
	text := "1 var x 4\n2 var y 4\n3 mul 1 2\n4 rem 3 2\nroots 4\n"
	s, roots := newStore(t, text)
	b, g := newBlaster(t, s)
	must[[]uint32](t)(b.Bits(roots[0]))
	need := g.Nodes() - 1
	for _, room := range []int{need, need - 1} {
		full := nearlyFull(t, room)
		b := must[*Blaster](t)(New(s, full))
		_, e := b.Bits(roots[0])
		is(t, "room", e == api.OK, room == need)
		is(t, "the part that has room", len(must[[]uint32](t)(b.Bits(3))), 4)
	}
}
