package flat

import (
	"testing"

	"cadence/api"
)

// TestExamples: those of the chapter.
func TestExamples(t *testing.T) {
	f := makesCode(t, "width 8; secret k; out x; begin x = k + 2 * 3; end", "t2 = add t0 6; t1 = copy t2")
	is(t, "its temps", f.Temps, 3)
	is(t, "its size", sizeOf(t, f), 2)
	endIs(t, f, inputs(5), "(5) (11)", "")
	f = makesCode(t, "out x; const T[2] = 5, 6; begin for i 0 2 { x = T[i]; } end", "t1 = T[0]; t0 = copy t1; t2 = T[1]; t0 = copy t2")
	is(t, "its temps", f.Temps, 3)
	is(t, "its size", sizeOf(t, f), 4)
	endIs(t, f, nil, "(6)", "load 1 0; load 1 1")
	g := dropped(t, f)
	codeIs(t, "Drop of it", g, "t1 = T[0]; t2 = T[1]; t0 = copy t2")
	is(t, "its temps", g.Temps, 3)
	is(t, "its size", sizeOf(t, g), 3)
	endIs(t, g, nil, "(6)", "load 1 0; load 1 1")
	f = makesCode(t, "out x; begin if 1 / 0 { x = 1; } end", "t1 = div 1 0; if t1 { t0 = copy 1 }")
	is(t, "its temps", f.Temps, 2)
	is(t, "its size", sizeOf(t, f), 3)
	endIs(t, f, nil, "(1)", "divide 1 0; branch 1")
	is(t, "its text", textOf(t, f), "t1 = div 1 0\nif t1 {\n  t0 = copy 1\n}\n")
	f = makesCode(t, "out x; var v; begin v = 3; x = v + 1; end", "t1 = copy 3; t2 = add t1 1; t0 = copy t2")
	g = folded(t, f)
	codeIs(t, "Fold of it", g, "t1 = copy 3; t2 = copy 4; t0 = copy 4")
	is(t, "its temps", g.Temps, 3)
	codeIs(t, "Drop of that", dropped(t, g), "t0 = copy 4")
}

// TestTextExamples: the lines that the chapter writes.
func TestTextExamples(t *testing.T) {
	const head = "width 8; secret k; out x; var NAME[4];"
	for _, line := range []string{"t5 = com t1", "t5 = sel t1 2 t3", "t5 = NAME[t1]", "NAME[t1] = t2", "release t1", "t5 = copy t1"} {
		f := read(t, head, 6, line)
		is(t, line, textOf(t, f), line+"\n")
	}
	f := read(t, head, 6, "if t1 { }")
	is(t, "an if", textOf(t, f), "if t1 {\n}\n")
	is(t, "its size", sizeOf(t, f), 1)
}

// TestWholes: of the whole document's examples: what their code is, and what it shows.
func TestWholes(t *testing.T) {
	const head = "width 4; secret k; public n; const T[4] = 1, 2, 3, 4; out x; begin "
	for _, r := range []struct{ body, code, trace string }{
		{"x = T[n] + sel(k, 1, 2);", "t3 = T[t1]; t4 = sel t0 1 2; t5 = add t3 t4; t2 = copy t5", "load 2 3"},
		{"x = T[k];", "t3 = T[t0]; t2 = copy t3", "load 2 1"},
		{"if k < 8 { x = 1; }", "t3 = lt t0 8; if t3 { t2 = copy 1 }", "branch 0"},
		{"x = k & 1; release x; if x { x = n; }", "t3 = and t0 1; t2 = copy t3; release t2; if t2 { t2 = copy t1 }", "release 1; branch 1"},
		{"x = n / k;", "t3 = div t1 t0; t2 = copy t3", "divide 7 9"},
		{"x = (k ^ n) ^ k; x = T[x];", "t3 = xor t0 t1; t4 = xor t3 t0; t2 = copy t4; t5 = T[t2]; t2 = copy t5", "load 2 3"},
		{"for i 0 4 { x = x ^ T[i]; } if x == n { x = k; }", "t3 = T[0]; t4 = xor t2 t3; t2 = copy t4; t5 = T[1]; t6 = xor t2 t5; t2 = copy t6; t7 = T[2]; t8 = xor t2 t7; t2 = copy t8; t9 = T[3]; t10 = xor t2 t9; t2 = copy t10; t11 = eq t2 t1; if t11 { t2 = copy t0 }", "load 2 0; load 2 1; load 2 2; load 2 3; branch 0"},
	} {
		f := makesCode(t, head+r.body+" end", r.code)
		is(t, r.body, toldTrace(ranWith(t, f, inputs(9, 7)).Trace), r.trace)
	}
	_, e := Make(parsed(t, head+"x = y; end"))
	is(t, "a name that is none", e, api.ErrUnknown)
}
