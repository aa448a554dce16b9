package check

import (
	"fmt"
	"math"
	"testing"

	"cadence/api"
)

// holdIs: of a text with a verdict, which stays as it was.
func holdIs(t testing.TB, what, s string, v api.Verdict, want bool) {
	t.Helper()
	before := fmt.Sprintf("%+v", v)
	if Hold(s, v) != want {
		t.Fatalf("%s: %v of %s with %s", what, !want, cut(s), before)
	}
	is(t, "as it was", fmt.Sprintf("%+v", v), before)
}

// turned: a verdict with each field turned by itself, which then does not hold: they name what was turned.
func turned(v api.Verdict) map[string]api.Verdict {
	all := map[string]api.Verdict{}
	put := func(what string, turn func(*api.Verdict)) {
		w := v
		w.X, w.Y = append([]uint64(nil), v.X...), append([]uint64(nil), v.Y...)
		turn(&w)
		all[what] = w
	}
	put("At above", func(w *api.Verdict) { w.At++ })
	put("At below", func(w *api.Verdict) { w.At-- })
	put("At great", func(w *api.Verdict) { w.At = math.MaxInt })
	put("At small", func(w *api.Verdict) { w.At = math.MinInt })
	put("a Code", func(w *api.Verdict) { w.Code++ })
	put("another Code", func(w *api.Verdict) { w.Code-- })
	put("Which below", func(w *api.Verdict) { w.Which = -1 })
	put("Which above", func(w *api.Verdict) { w.Which = 6 })
	put("X longer", func(w *api.Verdict) { w.X = append(w.X, 0) })
	put("Y longer", func(w *api.Verdict) { w.Y = append(w.Y, 0) })
	put("both longer", func(w *api.Verdict) { w.X, w.Y = append(w.X, 0), append(w.Y, 0) })
	for kind := -1; kind <= 7; kind++ {
		if kind != v.Kind {
			put(fmt.Sprint("Kind ", kind), func(w *api.Verdict) { w.Kind = kind })
		}
	}
	for _, c := range fourCounters() {
		for _, n := range []int64{-1, math.MinInt64} {
			put(fmt.Sprint("counter ", c, " ", n), func(w *api.Verdict) { *counter(&w.Used, c) = n })
		}
	}
	return all
}

// allTurned: none of them holds, but for those that are named.
func allTurned(t testing.TB, s string, v api.Verdict, but ...string) {
	t.Helper()
	holdIs(t, "the verdict", s, v, true)
	for what, w := range turned(v) {
		want := false
		for _, b := range but {
			want = want || b == what
		}
		holdIs(t, what, s, w, want)
	}
}

// TestHoldSecure: of a right program, with nothing but counters; which are not looked at but for their sign (F24.4).
func TestHoldSecure(t *testing.T) {
	for _, s := range []string{text("secret k; out x; begin x = k * k; end"), text("begin end"), text(leaky)} {
		v := api.Verdict{Kind: api.Secure, Used: budget(1, 4, 0, 0)}
		allTurned(t, s, v)
		holdIs(t, "other counters", s, api.Verdict{Kind: api.Secure}, true)
		holdIs(t, "other counters", s, api.Verdict{Kind: api.Secure, Used: budget(math.MaxInt64, 7, math.MaxInt64, 9)}, true)
		for which := range 7 {
			holdIs(t, "Which", s, api.Verdict{Kind: api.Secure, Which: which}, which == 0)
		}
		holdIs(t, "lists without a word", s, api.Verdict{Kind: api.Secure, X: []uint64{}, Y: []uint64{}}, true)
	}
}

// TestHoldUnknown: likewise, with the number of a counter, or that of room (F24.4).
func TestHoldUnknown(t *testing.T) {
	for _, s := range []string{text(leaky), text("begin end")} {
		for which := -3; which <= 9; which++ {
			holdIs(t, "Which", s, api.Verdict{Kind: api.Unknown, Which: which, Used: budget(1, 2, 3, 4)}, which >= 1 && which <= 5)
		}
		for which := api.CPaths; which <= api.CRoom; which++ {
			v := api.Verdict{Kind: api.Unknown, Which: which, Used: budget(1, 2, 3, 4)}
			allTurned(t, s, v)
			holdIs(t, "no counts", s, api.Verdict{Kind: api.Unknown, Which: which}, true)
		}
	}
}

// TestHoldLeak: by the runs alone (F24.4).
func TestHoldLeak(t *testing.T) {
	s := text("width 4; secret k; public n; const T[4] = 1, 2, 3, 4; out x; begin x = n / 3; x = T[k]; end")
	leak := func(at int, words ...uint64) api.Verdict {
		return api.Verdict{Kind: api.Leak, At: at, X: words[:2], Y: words[2:], Used: budget(1, 2, 3, 4)}
	}
	v := leak(1, 0, 5, 1, 5)
	allTurned(t, s, v)
	holdIs(t, "other counters", s, api.Verdict{Kind: api.Leak, At: 1, X: v.X, Y: v.Y}, true)
	for which := 1; which < 7; which++ {
		w := v
		w.Which = which
		holdIs(t, "Which", s, w, false)
	}
	holdIs(t, "other inputs", s, leak(1, 15, 0, 2, 0), true)
	holdIs(t, "the first before", s, leak(1, 2, 0, 15, 0), true)
	holdIs(t, "one line", s, leak(1, 3, 0, 15, 0), false)
	holdIs(t, "the same", s, leak(1, 3, 0, 3, 0), false)
	holdIs(t, "the same, at 0", s, leak(0, 3, 0, 3, 0), false)
	holdIs(t, "unlike at a public position", s, leak(1, 0, 5, 1, 6), false)
	holdIs(t, "unlike at a public position", s, leak(0, 0, 5, 1, 6), false)
	holdIs(t, "the place", s, leak(0, 0, 5, 1, 5), false)
	holdIs(t, "the place", s, leak(2, 0, 5, 1, 5), false)
	for _, high := range []uint64{16, 17, 32, 1 << 63, math.MaxUint64 - 15} { // the lowest bits are those of a leak still
		holdIs(t, "a great word", s, leak(1, high, 5, 3, 5), false)
		holdIs(t, "a great word", s, leak(1, 2, 5, high+3, 5), false)
		holdIs(t, "great words", s, leak(1, 0, high+5, 1, high+5), false)
	}
	for _, w := range []api.Verdict{
		{Kind: api.Leak, At: 1, X: []uint64{0}, Y: []uint64{1, 5}}, {Kind: api.Leak, At: 1, X: []uint64{0, 5}, Y: []uint64{1}}, {Kind: api.Leak, At: 1, X: []uint64{0}, Y: []uint64{1}},
		{Kind: api.Leak, At: 1, Y: []uint64{1, 5}}, {Kind: api.Leak, At: 1, X: []uint64{0, 5}}, {Kind: api.Leak, At: 1}, {Kind: api.Leak},
		{Kind: api.Leak, At: 1, X: []uint64{0, 5, 0}, Y: []uint64{1, 5, 0}},
	} {
		holdIs(t, "lengths", s, w, false)
	}
	holdIs(t, "no leak in a release", text("width 4; secret k; begin release k; end"), api.Verdict{Kind: api.Leak, X: []uint64{0}, Y: []uint64{1}}, false)
	holdIs(t, "nothing to differ in", text("width 4; begin end"), api.Verdict{Kind: api.Leak}, false)
	for _, width := range []int{4, 8, 16, 32, 64} {
		s := text(fmt.Sprintf("width %d; secret k; begin if k { } end", width))
		top := uint64(math.MaxUint64) >> (64 - width)
		holdIs(t, "the greatest word", s, api.Verdict{Kind: api.Leak, X: []uint64{0}, Y: []uint64{top}}, true)
		holdIs(t, "the greatest word", s, api.Verdict{Kind: api.Leak, X: []uint64{top}, Y: []uint64{0}}, true)
		if width < 64 {
			holdIs(t, "beyond it", s, api.Verdict{Kind: api.Leak, X: []uint64{0}, Y: []uint64{top + 2}}, false)
			holdIs(t, "beyond it", s, api.Verdict{Kind: api.Leak, X: []uint64{top + 2}, Y: []uint64{0}}, false)
		}
	}
}

// TestHoldReject: with the text's own Code, and nothing else (F24.4).
func TestHoldReject(t *testing.T) {
	for s, code := range map[string]api.Errno{"program": api.ErrSyntax, text("begin x = 1; end"): api.ErrUnknown, text("width 5; begin end"): api.ErrWidth, text("begin $ end"): api.ErrToken, "": api.ErrSyntax} {
		v := api.Verdict{Kind: api.Reject, Code: code}
		allTurned(t, s, v)
		for _, c := range []api.Errno{api.OK, -1, api.ErrArg, api.ErrSyntax, api.ErrUnknown, api.ErrHigh, math.MaxInt, math.MinInt} {
			holdIs(t, "Code", s, api.Verdict{Kind: api.Reject, Code: c}, c == code)
		}
		for _, n := range []int64{1, math.MaxInt64, -1} {
			for _, c := range fourCounters() {
				w := v
				*counter(&w.Used, c) = n
				holdIs(t, "Used", s, w, false)
			}
		}
		for which := 1; which < 6; which++ {
			w := v
			w.Which = which
			holdIs(t, "Which", s, w, false)
		}
		holdIs(t, "lists without a word", s, api.Verdict{Kind: api.Reject, Code: code, X: []uint64{}, Y: []uint64{}}, true)
		holdIs(t, "X", s, api.Verdict{Kind: api.Reject, Code: code, X: []uint64{0}}, false)
		for _, w := range []api.Verdict{{Kind: api.Secure}, {Kind: api.Unknown, Which: 1}, {Kind: api.Leak, X: []uint64{0}, Y: []uint64{1}}, {Kind: api.Secure, Code: code}, {}, {Code: code}, {Kind: api.Stopped}} {
			holdIs(t, "another Kind", s, w, false)
		}
	}
	for _, code := range []api.Errno{api.OK, api.ErrSyntax, api.ErrArg, api.ErrUnknown} {
		holdIs(t, "a right program", text(leaky), api.Verdict{Kind: api.Reject, Code: code}, false)
	}
}

// TestHoldKinds: Stopped, and what is no Kind (F24.4).
func TestHoldKinds(t *testing.T) {
	for _, kind := range []int{0, api.Stopped, 6, -1, math.MaxInt, math.MinInt} {
		for _, s := range []string{text(leaky), text("begin end"), "program"} {
			holdIs(t, "such a Kind", s, api.Verdict{Kind: kind}, false)
			holdIs(t, "such a Kind", s, api.Verdict{Kind: kind, Which: 1, X: []uint64{0}, Y: []uint64{1}}, false)
			holdIs(t, "such a Kind", s, api.Verdict{Kind: kind, Code: api.ErrSyntax}, false)
		}
	}
}
