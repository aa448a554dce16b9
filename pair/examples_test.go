package pair

import (
	"testing"

	"cadence/api"
)

const chapterText = "width 8; line 1; secret k; public n; const T[4] = 7, 6, 5, 4; out x; begin x = T[n] + k; if x < 9 { x = T[k]; } end"

// The load of T at a public index.
const (
	bit0 = "(eq (slice p1 0 1) 1:1)"
	bit1 = "(eq (slice p1 1 1) 1:1)"
	atP1 = "(ite " + bit1 + " (ite " + bit0 + " 4 5) (ite " + bit0 + " 6 7))"
	lowX = "(ult (add " + atP1 + " x0) 9)"
	lowY = "(ult (add " + atP1 + " y0) 9)"
)

// TestExamples: the chapter's own.
func TestExamples(t *testing.T) {
	f := program(t, chapterText)
	is(t, "the code", shown(f)[len(shown(f))-len("t3 = T[t1]\nt4 = add t3 t0\nt2 = copy t4\nt5 = lt t2 9\nif t5 {\n  t6 = T[t0]\n  t2 = copy t6\n}\n"):],
		"t3 = T[t1]\nt4 = add t3 t0\nt2 = copy t4\nt5 = lt t2 9\nif t5 {\n  t6 = T[t0]\n  t2 = copy t6\n}\n")
	g := start(t, f)
	g.is(7, Room, "", 0)
	_, _, e := g.w.Fork()
	is(t, "Fork", e, api.ErrArg)
	g.is(-1, Differ, "(xor "+lowX+" "+lowY+")", 16)
	g.so(1, "")
	g.agree()
	g.is(-1, Branch, lowX, 0)
	then, otherwise := g.fork()
	then.so(2, lowX+", "+lowY)
	otherwise.so(2, "(not "+lowX+"), (not "+lowY+")")
	then.is(-1, Differ, "(not (eq (slice x0 0 2) (slice y0 0 2)))", 8)
	then.agree()
	then.is(-1, End, "", 2)
	then.so(3, lowX+", "+lowY)
	otherwise.is(-1, End, "", 0)
	is(t, "x in Else", otherwise.words(2), "(add "+atP1+" x0) | (add "+atP1+" y0)")
	inner := func(v string) string {
		b0, b1 := "(eq (slice "+v+" 0 1) 1:1)", "(eq (slice "+v+" 1 1) 1:1)"
		return "(ite " + b1 + " (ite " + b0 + " 4 5) (ite " + b0 + " 6 7))"
	}
	is(t, "x in Then", then.words(2), inner("x0")+" | "+inner("y0"))
}

// TestWholeExamples: those of the document whose answers hang on the ways alone.
func TestWholeExamples(t *testing.T) {
	const head = "width 4; secret k; public n; const T[4] = 1, 2, 3, 4; out x; "
	for _, r := range []struct {
		text, truth string
		kind        int
		weight      int64
	}{
		{head + "begin x = T[n] + sel(k, 1, 2); end", "", End, 8 + 2 + 2 + 2},
		{head + "begin x = T[k]; end", "(not (eq (slice x0 0 2) (slice y0 0 2)))", Differ, 8},
		{"width 4; line 4; " + head[len("width 4; "):] + "begin x = T[k]; end", "", End, 10},
		{head + "begin if k < 8 { x = 1; } end", "(xor (ult x0 8) (ult y0 8))", Differ, 4},
		{head + "begin x = n / k; end", "(not (eq x0 y0))", Differ, 2},
		{head + "begin x = (k ^ n) ^ k; x = T[x]; end", "", End, 2 + 2 + 2 + 8 + 2},
	} {
		start(t, program(t, r.text)).is(-1, r.kind, r.truth, r.weight)
	}
	g := start(t, program(t, head+"begin x = k & 1; release x; if x { x = n; } end"))
	g.is(-1, Differ, "(xor (eq (band x0 1) 0) (eq (band y0 1) 0))", 2+2+2+2)
	g.so(1, "(eq (band x0 1) (band y0 1))")
}
