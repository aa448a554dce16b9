package pair

import (
	"fmt"
	"math"
	"testing"

	"cadence/api"
)

// TestRoom: with just enough room an instruction is done, with one less it is not (P2302).
func TestRoom(t *testing.T) {
	const head = "width 8; line 256; secret k; public n; out x; const T[8] = 1, 2, 3, 4, 5, 6, 7, 8; var a[32]; var b[1];"
	for _, r := range []struct {
		x      api.Ins
		weight int64
	}{
		{ins(api.FCopy, 2, temp(0)), 2}, {ins(api.EMul, 2, temp(0), temp(1)), 2}, {ins(api.EDiv, 2, temp(1), temp(1)), 2},
		{ins(api.ESel, 2, temp(0), temp(1), temp(0)), 2}, {release(temp(0)), 2}, {branch(number(1), nil, nil), 2},
		{load(2, 3, temp(0)), 16}, {load(2, 4, temp(1)), 64}, {store(4, temp(0), temp(0)), 64}, {store(5, temp(0), temp(0)), 2}, {load(2, 5, number(9)), 2},
	} {
		f := code(t, head, 3, r.x, r.x)
		for _, room := range []int64{0, 1, r.weight - 1} {
			g := start(t, f)
			g.is(room, Room, "", 0)
			g.so(0, "")
			is(t, "x", g.words(2), "0 | 0")
			g.is(room, Room, "", 0)
		}
		for _, room := range []int64{r.weight, r.weight + 1, 2*r.weight - 1} {
			g := start(t, f)
			g.is(room, Room, "", r.weight)
			g.is(r.weight-1, Room, "", 0)
			g.is(r.weight, End, "", r.weight)
		}
		for _, room := range []int64{2 * r.weight, 2*r.weight + 1, math.MaxInt64, -1, -2, math.MinInt64} {
			g := start(t, f)
			g.is(room, End, "", 2*r.weight)
			g.is(room, End, "", 0)
		}
	}
}

// TestRoomAheadOfDiffer: a weight counts ahead of a Differ, and one that no longer fits is Room, with nothing done (P2302).
func TestRoomAheadOfDiffer(t *testing.T) {
	const line, set = "(not (eq (slice x0 0 2) (slice y0 0 2)))", "(xor (eq x0 0) (eq y0 0))"
	for _, r := range []struct {
		x      api.Ins
		truth  string
		weight int64
	}{
		{load(2, 3, temp(0)), line, 8}, {store(4, temp(0), temp(0)), line, 8},
		{ins(api.EDiv, 2, temp(0), temp(1)), "(not (eq x0 y0))", 2}, {branch(temp(0), nil, nil), set, 2},
	} {
		f := code(t, "width 8; secret k; public n; out x; const T[4] = 1, 2, 3, 4; var a[4];", 3, ins(api.FCopy, 2, temp(0)), release(temp(1)), r.x)
		for room := int64(0); room < 4+r.weight; room++ {
			g := start(t, f)
			g.is(room, Room, "", min(room/2*2, 4))
			g.so(int(min(room/4, 1)), "")
			terms := g.w.Store().Len()
			g.is(min(r.weight-1, 1), Room, "", 0)
			is(t, "terms that were made", g.w.Store().Len(), terms)
			g.is(4+r.weight, Differ, r.truth, 4+r.weight-min(room/2*2, 4))
		}
		for _, room := range []int64{4 + r.weight, 5 + r.weight, -1} {
			g := start(t, f)
			g.is(room, Differ, r.truth, 4+r.weight)
			g.so(1, "")
		}
	}
}

// TestWaits: while a way waits, Next tells the same ask with Weight 0, whatever the room, and nothing is done (P2302).
func TestWaits(t *testing.T) {
	g := start(t, code(t, "width 8; secret k; out x; const T[4] = 1, 2, 3, 4;", 2, load(1, 2, temp(0)), branch(temp(0), nil, nil)))
	again := func(kind int, truth string) {
		t.Helper()
		terms := g.w.Store().Len()
		for _, room := range []int64{0, 1, 7, 8, math.MaxInt64, -1, math.MinInt64} {
			g.is(room, kind, truth, 0)
		}
		is(t, "terms that were made", g.w.Store().Len(), terms)
	}
	g.is(8, Differ, "(not (eq (slice x0 0 2) (slice y0 0 2)))", 8)
	again(Differ, "(not (eq (slice x0 0 2) (slice y0 0 2)))")
	g.so(0, "")
	g.agree()
	g.so(1, "")
	g.is(1, Room, "", 0)
	g.is(2, Differ, "(xor (eq x0 0) (eq y0 0))", 2)
	again(Differ, "(xor (eq x0 0) (eq y0 0))")
	g.agree()
	again(Branch, "(not (eq x0 0))")
	g.so(2, "")
	g, _ = g.fork()
	for range 3 {
		g.is(-1, End, "", 0)
	}
}

// TestRefused: Agree where it does not wait with a Differ, Fork where it does not wait with a Branch: ErrArg, and nothing has changed (P2303, P2304).
func TestRefused(t *testing.T) {
	g := start(t, code(t, "width 8; secret k; out x;", 3, ins(api.FCopy, 1, number(3)), branch(temp(0), list(ins(api.FCopy, 1, number(4))), nil)))
	refused := func(agree, fork bool, events int) {
		t.Helper()
		before, terms := fmt.Sprint(g.words(1), g.w.Assumed()), g.w.Store().Len()
		if agree {
			is(t, "Agree", g.w.Agree(), api.ErrArg)
		}
		if fork {
			a, b, e := g.w.Fork()
			is(t, "Fork", []any{a == nil, b == nil, e}, []any{true, true, api.ErrArg})
		}
		is(t, "what it has", []any{fmt.Sprint(g.words(1), g.w.Assumed()), g.w.Store().Len(), g.w.Events()}, []any{before, terms, events})
	}
	refused(true, true, 0)
	g.is(1, Room, "", 0)
	refused(true, true, 0)
	g.is(2, Room, "", 2)
	refused(true, true, 0)
	g.is(-1, Differ, "(xor (eq x0 0) (eq y0 0))", 2)
	refused(false, true, 0)
	g.is(-1, Differ, "(xor (eq x0 0) (eq y0 0))", 0)
	g.agree()
	refused(true, false, 1)
	g.is(-1, Branch, "(not (eq x0 0))", 0)
	refused(true, false, 1)
	then, otherwise := g.fork()
	for _, side := range []*going{then, otherwise} {
		g = side
		refused(true, true, 1)
		g.w.Next(-1)
		refused(true, true, 1)
	}
	then.is(-1, End, "", 0)
	is(t, "x", then.words(1)+", "+otherwise.words(1), "4 | 4, 3 | 3")
}

// TestAgreeOnce: Agree is for one Differ (P2303).
func TestAgreeOnce(t *testing.T) {
	g := start(t, code(t, "width 8; secret k; out x;", 2, ins(api.EDiv, 0, temp(0), number(3)), ins(api.EDiv, 0, temp(0), number(5))))
	g.is(-1, Differ, "(not (eq x0 y0))", 2)
	g.agree()
	is(t, "Agree again", g.w.Agree(), api.ErrArg)
	g.so(1, "")
	is(t, "k", g.words(0), "(div x0 3) | (div y0 3)")
	g.is(-1, Differ, "(not (eq (div x0 3) (div y0 3)))", 2)
	g.agree()
	g.is(-1, End, "", 0)
	g.so(2, "")
}
