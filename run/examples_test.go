package run

import (
	"testing"

	"cadence/api"
)

const exampleText = "width 8; secret k; public n; const T[4] = 7, 6, 5, 4; out x; begin x = T[k] + n; if x < 9 { release x; } end"

// TestExamples: those of the chapter.
func TestExamples(t *testing.T) {
	p := parsed(t, exampleText)
	is(t, "the length", lengthOf(t, p), 2)
	public, _ := Public(p)
	is(t, "public", public, []bool{false, true})
	endIs(t, exampleText, words(5, 1), "(5) (1) (7)", "load 2 1; branch 1; release 7")
	out, e := Outputs(p, endOf(t, p, words(5, 1)))
	is(t, "the outputs", []any{out, e}, []any{words(7), api.OK})
	leakIs(t, p, words(5, 1), words(6, 1), true, 0)
	leakIs(t, p, words(5, 1), words(9, 1), false, 0)
	leakFails(t, p, words(5, 1), words(5, 2), api.ErrArg)
	runFails(t, p, words(1), api.ErrLength)
	lined := parsed(t, "line 4; "+exampleText)
	leakIs(t, lined, words(5, 1), words(6, 1), false, 0)
	is(t, "a line of four", toldTrace(endOf(t, lined, words(5, 1)).Trace), "load 2 0; branch 1; release 7")
	is(t, "a line of four", toldTrace(endOf(t, lined, words(6, 1)).Trace), "load 2 0; branch 1; release 6")
}

// wholeIsCT: is a program of DOC.md's examples, with one secret and one public word of 4 bits, constant time? All pairs are gone through.
func wholeIsCT(t *testing.T, p api.Program) bool {
	t.Helper()
	for n := range uint64(16) {
		for k := range uint64(16) {
			for l := range uint64(16) {
				leaks, _, e := Leaks(p, words(k, n), words(l, n))
				if e != api.OK {
					t.Fatalf("%d, of %s", e, shown(p))
				}
				if leaks {
					return false
				}
			}
		}
	}
	return true
}

// TestWholes: which of the whole document's examples are constant time.
func TestWholes(t *testing.T) {
	const head = "width 4; secret k; public n; const T[4] = 1, 2, 3, 4; out x; begin "
	for _, r := range []struct {
		text string
		ct   bool
	}{
		{head + "x = T[n] + sel(k, 1, 2); end", true},
		{head + "x = T[k]; end", false},
		{"line 4; " + head + "x = T[k]; end", true},
		{"line 2; " + head + "x = T[k]; end", false},
		{head + "if k < 8 { x = 1; } end", false},
		{head + "x = k & 1; release x; if x { x = n; } end", true},
		{head + "x = k & 1; if x { x = n; } release x; end", false},
		{head + "x = n / k; end", false},
		{head + "x = (k ^ n) ^ k; x = T[x]; end", true},
		{head + "for i 0 4 { x = x ^ T[i]; } if x == n { x = k; } end", true},
	} {
		is(t, r.text, wholeIsCT(t, parsed(t, r.text)), r.ct)
	}
	p := parsed(t, head+"if k < 8 { x = 1; } end")
	leakIs(t, p, words(0, 0), words(8, 0), true, 0)
	leakIs(t, p, words(0, 0), words(7, 0), false, 0)
	is(t, "x is 4", toldState(endOf(t, parsed(t, head+"for i 0 4 { x = x ^ T[i]; } end"), words(9, 3)).State), "(9) (3) (4)")
}
