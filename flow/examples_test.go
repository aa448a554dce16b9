package flow

import (
	"testing"

	"cadence/api"
)

// TestExamples: those of the chapter.
func TestExamples(t *testing.T) {
	for _, r := range []struct {
		text string
		high []int
		ends string
	}{
		{"secret k; out x; begin x = k * k; end", nil, "k: k, x: k"},
		{"secret k; out x; begin if k { x = 1; } end", []int{3}, "k: k, x: -"},
		{"secret k; out x; const T[4] = 1, 2, 3, 4; begin x = T[k & 3]; end", []int{5}, "k: k, x: k, T: -"},
		{"line 4; secret k; out x; const T[4] = 1, 2, 3, 4; begin x = T[k & 3]; end", nil, "k: k, x: k, T: -"},
		{"secret k; out x; begin x = k; release x; if x { x = k; } end", nil, "k: k, x: k"},
		{"secret k; out x; var a; begin for i 0 2 { x = 1 / (a + 1); a = k; } end", []int{7}, "k: k, x: k, a: k"},
		{"secret k; out x; begin x = 1 / k; x = 2 % k; end", []int{5, 9}, "k: k, x: k"},
	} {
		p := parsed(t, r.text)
		is(t, r.text, highOf(t, p), append([]int{}, r.high...))
		is(t, r.text, endsTold(t, p), r.ends)
	}
	ends, _ := Ends(parsed(t, "secret k; out x; begin x = k * k; end"))
	is(t, "ends as numbers", ends, [][]int{{0}, {0}})
	place, e := Check(parsed(t, "secret k; out x; begin x = k * k; end"))
	is(t, "typed", []any{place, e}, []any{0, api.OK})
	place, e = Check(parsed(t, "secret k; out x; begin if k { x = 1; } end"))
	is(t, "high", []any{place, e}, []any{3, api.ErrHigh})
}

// TestWhole: the document's examples of the whole, as flow has them.
func TestWhole(t *testing.T) {
	const head = "width 4; secret k; public n; const T[4] = 1, 2, 3, 4; out x; begin "
	for _, r := range []struct{ body, high string }{
		{"x = T[n] + sel(k, 1, 2);", ""},
		{"x = T[k];", "k"},
		{"if k < 8 { x = 1; }", "k < 8"},
		{"x = k & 1; release x; if x { x = n; }", ""},
		{"x = n / k;", "k"},
		{"x = (k ^ n) ^ k; x = T[x];", "x"}, // it is constant time, but not typed
		{"for i 0 4 { x = x ^ T[i]; } if x == n { x = k; }", ""},
	} {
		highIs(t, head+r.body+" end", r.high)
	}
	highIs(t, "width 4; line 4; secret k; public n; const T[4] = 1, 2, 3, 4; out x; begin x = T[k]; end", "")
}
