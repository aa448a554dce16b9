package pair

import (
	"fmt"
	"testing"

	"cadence/api"
)

// TestDivisions: what must be shown of a division: that both operands are alike; nothing, where a1 is a2 and b1 is b2 (P2302).
func TestDivisions(t *testing.T) {
	const a, b = "(not (eq x0 y0))", "(not (eq x2 y2))"
	for _, op := range []int{api.EDiv, api.ERem} {
		for _, r := range []struct {
			a, b  api.Arg
			truth string
		}{
			{temp(1), temp(1), ""}, {temp(1), number(3), ""}, {number(3), temp(1), ""}, {number(9), number(0), ""}, {temp(3), temp(3), ""},
			{temp(0), temp(1), a}, {temp(0), number(3), a}, {temp(0), number(0), a}, {temp(0), number(1), a},
			{temp(1), temp(2), b}, {number(0), temp(2), b}, {number(9), temp(2), b},
			{temp(0), temp(2), "(or " + a + " " + b + ")"},
			{temp(2), temp(0), "(or " + b + " " + a + ")"},
			{temp(0), temp(0), a},
			{temp(5), temp(4), ""}, // 0 by 0 in both copies, whatever the secret is
			{temp(5), temp(0), a},
		} {
			g := start(t, code(t, threeWords, 6, ins(api.EXor, 5, temp(0), temp(0)), ins(op, 3, r.a, r.b)))
			if r.truth == "" {
				g.is(-1, End, "", 4)
			} else {
				g.is(-1, Differ, r.truth, 4)
				g.so(0, "")
				is(t, "ahead of Agree", g.words(3), "0 | 0")
				g.agree()
				g.is(-1, End, "", 0)
			}
			g.so(1, "")
		}
	}
}

// TestLines: the line of an index: Slice(a, l, k - l), with k by the array's size, but no more than W, if l is below k; else all lines are one (P2302).
func TestLines(t *testing.T) {
	log := map[int]int{1: 0, 2: 1, 4: 2, 8: 3, 16: 4, 32: 5, 64: 6, 128: 7, 256: 8}
	for _, w := range []int{4, 8, 16, 64} {
		for _, size := range powers() {
			for _, line := range powers() {
				k, l := min(log[size], w), log[line]
				for _, x := range []api.Ins{load(1, 2, temp(0)), store(2, temp(0), number(1))} {
					g := start(t, code(t, fmt.Sprintf("width %d; line %d; secret k; out x; var a[%d];", w, line, size), 2, x))
					want := ""
					switch {
					case l >= k:
					case l == 0 && k == w:
						want = "(not (eq x0 y0))"
					default:
						want = fmt.Sprintf("(not (eq (slice x0 %d %d) (slice y0 %d %d)))", l, k-l, l, k-l)
					}
					if want == "" {
						g.is(-1, End, "", 2*int64(size))
					} else {
						g.is(-1, Differ, want, 2*int64(size))
						g.so(0, "")
						g.agree()
						g.is(-1, End, "", 0)
					}
					g.so(1, "")
				}
			}
		}
	}
}

// TestOneLine: nothing is to be shown where the lines are one term though the indices are not (P2302).
func TestOneLine(t *testing.T) {
	const head = "width 8; line 2; secret k; public n; out x; const T[8] = 1, 2, 3, 4, 5, 6, 7, 8; var a[8];"
	for _, r := range []struct {
		name string
		make api.Ins
		want string
	}{
		{"the lowest bit is the secret's", ins(api.EAnd, 4, temp(0), number(1)), "(not (eq (slice (band x0 1) 1 2) (slice (band y0 1) 1 2)))"}, // the rules do not tell
		{"a public one", ins(api.EAnd, 4, temp(1), number(6)), ""},
		{"a number", ins(api.FCopy, 4, number(5)), ""},
		{"what is taken away again", ins(api.EXor, 4, temp(0), temp(0)), ""},
		{"the secret", ins(api.FCopy, 4, temp(0)), "(not (eq (slice x0 1 2) (slice y0 1 2)))"},
	} {
		for _, x := range []api.Ins{load(3, 3, temp(4)), store(4, temp(4), temp(0))} {
			g := start(t, code(t, head, 5, r.make, x))
			if r.want == "" {
				g.is(-1, End, "", 2+16)
			} else {
				g.is(-1, Differ, r.want, 2+16)
			}
		}
	}
	// The index of a store is what is seen, the word is not; of a load, the index, the array's words are not.
	g := start(t, code(t, head, 5, store(4, temp(1), temp(0)), load(3, 4, temp(1)), store(4, number(3), temp(3))))
	g.is(-1, End, "", 3*16)
	g.so(3, "")
}

// TestIfs: what must be shown of an if: that both copies go into the same part; nothing, where set(a1) is set(a2) (P2302).
func TestIfs(t *testing.T) {
	for _, r := range []struct {
		name  string
		make  api.Ins
		truth string
		kind  int
	}{
		{"a secret", ins(api.FCopy, 3, temp(0)), "(xor (eq x0 0) (eq y0 0))", Differ},
		{"a compare of one", ins(api.ELt, 3, temp(0), number(9)), "(xor (ult x0 9) (ult y0 9))", Differ},
		{"of both", ins(api.EEq, 3, temp(0), temp(1)), "(xor (eq x0 p1) (eq y0 p1))", Differ},
		{"a public one", ins(api.FCopy, 3, temp(1)), "(not (eq p1 0))", Branch},
		{"a compare of it", ins(api.EGe, 3, temp(1), number(9)), "(not (ult p1 9))", Branch},
		{"a number", ins(api.FCopy, 3, number(9)), "", End},
		{"0", ins(api.FCopy, 3, number(0)), "", End},
		{"what is taken away again", ins(api.ESub, 3, temp(0), temp(0)), "", End},
		{"not 0, whatever the secret is", ins(api.EOr, 3, temp(0), number(255)), "", End},
	} {
		g := start(t, code(t, "width 8; secret k; public n; out x;", 4, r.make, branch(temp(3), list(ins(api.FCopy, 2, number(1))), list(ins(api.FCopy, 2, number(2))))))
		weight := int64(4)
		if r.kind == End {
			weight += 2
		}
		g.is(-1, r.kind, r.truth, weight)
		if r.kind == Differ {
			g.so(0, "")
			g.agree()
			set := g.w.Next(0)
			is(t, r.name, []any{set.Kind, set.Weight}, []any{Branch, 0})
		}
		g.so(1, "")
	}
}

// TestNothingToShow: of all other instructions nothing must be shown, whatever their words are (P2302).
func TestNothingToShow(t *testing.T) {
	for _, op := range append(wordOps(), api.FRelease) {
		if op == api.EDiv || op == api.ERem {
			continue
		}
		x := release(temp(0))
		if op != api.FRelease {
			x = ins(op, 4, []api.Arg{temp(0), temp(2), temp(1)}[:partsOf(op)]...)
		}
		g := start(t, code(t, threeWords, 6, x))
		g.is(-1, End, "", 2)
	}
}
