package check

import (
	"testing"

	"cadence/api"
)

const leaky = "width 4; secret k; out x; begin if k { x = 1; } end"

// TestExamples: those of the chapter.
func TestExamples(t *testing.T) {
	checked(t, "secret k; out x; begin x = k * k; end", noBound(), "Secure which 0 at 0 code 0 used {1 4 0 0}")
	v := comesTo(t, leaky, noBound(), api.Leak)
	// The truth is that of k one copy is 0, and the other is not. The least bits are decided first, and are 0 first: the last bit of Y is left.
	is(t, "X, Y, At", []any{v.X, v.Y, v.At}, []any{[]uint64{0}, []uint64{8}, 0})
	checked(t, leaky, budget(0, -1, -1, -1), "Unknown which 1 at 0 code 0 used {0 0 0 0}")
	checked(t, leaky, budget(-1, 1, -1, -1), "Unknown which 2 at 0 code 0 used {1 0 0 0}")
	v = comesTo(t, leaky, budget(-1, -1, -1, 0), api.Unknown)
	is(t, "Which", v.Which, api.CDecisions)
	is(t, "rejected", Check("program p; begin x = 1; end", noBound()), api.Verdict{Kind: api.Reject, Code: api.ErrUnknown})
	is(t, "rejected", Check("program", noBound()), api.Verdict{Kind: api.Reject, Code: api.ErrSyntax})
	comesTo(t, "width 4; secret k; out x; begin x = k & 1; release x; if x { x = 0; } end", noBound(), api.Secure)
}

// TestTenExamples: those of the whole, as far as they speak of a check.
func TestTenExamples(t *testing.T) {
	const head = "secret k; public n; const T[4] = 1, 2, 3, 4; out x; begin "
	const h = "width 4; " + head
	checked(t, h+"x = T[n] + sel(k, 1, 2); end", noBound(), "Secure which 0 at 0 code 0 used {1 14 0 0}")
	v := comesTo(t, h+"x = T[k]; end", noBound(), api.Leak)
	is(t, "two words with unlike lowest bits, at", []any{v.X[0]&3 != v.Y[0]&3, v.X[1] == v.Y[1], v.At}, []any{true, true, 0})
	checked(t, "width 4; line 4; "+head+"x = T[k]; end", noBound(), "Secure which 0 at 0 code 0 used {1 10 0 0}")
	v = comesTo(t, h+"if k < 8 { x = 1; } end", noBound(), api.Leak)
	is(t, "X, Y, At", []any{v.X, v.Y, v.At}, []any{[]uint64{0, 0}, []uint64{8, 0}, 0})
	v = comesTo(t, h+"x = k & 1; release x; if x { x = n; } end", noBound(), api.Secure)
	is(t, "ways, weights", []int64{v.Used.Paths, v.Used.Terms}, []int64{2, 10})
	v = comesTo(t, h+"x = n / k; end", noBound(), api.Leak)
	is(t, "At", v.At, 0)
	comesTo(t, h+"x = (k ^ n) ^ k; x = T[x]; end", noBound(), api.Secure)
	is(t, "rejected", Check(text(h+"x = y; end"), noBound()), api.Verdict{Kind: api.Reject, Code: api.ErrUnknown})
	is(t, "rejected", Check("program p; begin", noBound()), api.Verdict{Kind: api.Reject, Code: api.ErrSyntax})
	v = comesTo(t, h+"for i 0 4 { x = x ^ T[i]; } if x == n { x = k; } end", noBound(), api.Secure)
	is(t, "ways, weights", []int64{v.Used.Paths, v.Used.Terms}, []int64{2, 4*12 + 2 + 2 + 2})
}
