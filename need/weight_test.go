package need

import (
	"fmt"
	"math/big"
	"testing"

	"cadence/api"
)

// natural: the number of a text that Code answered.
func natural(t testing.TB, text string) *big.Int {
	t.Helper()
	n, ok := new(big.Int).SetString(text, 10)
	if !ok || n.String() != text {
		t.Fatalf("no number: %q", cut(text))
	}
	return n
}

// weighed: the t, the g and the q of an instruction. Its t and q stand in the need of it alone; its g is told by the room of an if without parts behind it.
func weighed(t testing.TB, width int, x api.Ins) string {
	t.Helper()
	alone := codeNeed(t, base(width, x))
	behind := codeNeed(t, base(width, x, ins(api.FIf)))
	probe := codeNeed(t, base(width, ins(api.FIf)))
	g := new(big.Int).Sub(natural(t, behind.Room), natural(t, probe.Room))
	if new(big.Int).Mod(g, big.NewInt(4)).Sign() != 0 {
		t.Fatalf("%+v: no room of gates: %s", x, behind.Room)
	}
	return fmt.Sprint(alone.Terms, " ", g.Div(g, big.NewInt(4)), " ", alone.Queries)
}

// TestWeights: each operation by its t, g and q, at all widths; the numbers are written by hand (P2001).
func TestWeights(t *testing.T) {
	rows := []struct {
		ops   []int
		gates [5]int // at the widths 4, 8, 16, 32, 64
		asks  int
	}{
		{[]int{api.ECom, api.FCopy}, [5]int{0, 0, 0, 0, 0}, 0},
		{[]int{api.ENeg, api.EAdd, api.ESub}, [5]int{80, 160, 320, 640, 1280}, 0},
		{[]int{api.EAnd, api.EXor, api.EOr}, [5]int{32, 64, 128, 256, 512}, 0},
		{[]int{api.EMul}, [5]int{384, 1536, 6144, 24576, 98304}, 0},
		{[]int{api.EDiv, api.ERem}, [5]int{1096, 3720, 13576, 51720, 201736}, 1},
		{[]int{api.EShl, api.EShr, api.ERol, api.ERor, api.ESar}, [5]int{192, 384, 768, 1536, 3072}, 0},
		{[]int{api.EEq, api.ENe, api.ELt, api.ELe, api.EGt, api.EGe, api.ESlt}, [5]int{128, 256, 512, 1024, 2048}, 0},
		{[]int{api.ESel}, [5]int{96, 192, 384, 768, 1536}, 0},
		{[]int{api.FRelease}, [5]int{48, 96, 192, 384, 768}, 0},
		{[]int{api.FIf}, [5]int{104, 200, 392, 776, 1544}, 1},
	}
	seen := map[int]int{}
	for _, r := range rows {
		for _, op := range r.ops {
			seen[op]++
			for i, width := range widths() {
				is(t, fmt.Sprint("operation ", op, " at ", width), weighed(t, width, ins(op)), fmt.Sprint(2, " ", r.gates[i], " ", r.asks))
			}
		}
	}
	is(t, "operations without an array", len(seen), 26)
}

// TestArrayWeights: loads and stores, by the width and the size; of tables too (P2001).
func TestArrayWeights(t *testing.T) {
	for _, r := range []struct {
		width, size, loads, stores int
	}{
		{4, 1, 112, 192}, {4, 2, 144, 304}, {4, 4, 208, 528}, {4, 16, 592, 1872}, {4, 256, 8272, 28752},
		{8, 1, 144, 224}, {8, 2, 208, 368}, {8, 8, 592, 1232}, {8, 32, 2128, 4688}, {8, 128, 8272, 18512},
		{16, 1, 208, 288}, {16, 4, 592, 912}, {16, 64, 8272, 13392},
		{32, 1, 336, 416}, {32, 2, 592, 752}, {32, 256, 65616, 86096},
		{64, 1, 592, 672}, {64, 2, 1104, 1264}, {64, 256, 131152, 151632},
	} {
		at := fmt.Sprint("width ", r.width, ", size ", r.size)
		is(t, "load, "+at, weighed(t, r.width, load(array(r.size))), fmt.Sprint(2*r.size, " ", r.loads, " ", 1))
		is(t, "load of a table, "+at, weighed(t, r.width, load(table(r.size))), fmt.Sprint(2*r.size, " ", r.loads, " ", 1))
		is(t, "store, "+at, weighed(t, r.width, store(array(r.size))), fmt.Sprint(2*r.size, " ", r.stores, " ", 1))
	}
	for _, width := range widths() {
		for _, size := range sizes() {
			at := fmt.Sprint("width ", width, ", size ", size)
			is(t, "load, "+at, weighed(t, width, load(array(size))), fmt.Sprint(2*size, " ", 8*width*size+80, " ", 1))
			is(t, "store, "+at, weighed(t, width, store(array(size))), fmt.Sprint(2*size, " ", 8*width*size+80*size+80, " ", 1))
		}
	}
}

// TestArrayKinds: what kind an array is does not count (P2001).
func TestArrayKinds(t *testing.T) {
	for _, kind := range []int{api.DPublic, api.DSecret, api.DVar, api.DOut} {
		f := api.Flat{Width: 8, Line: 1, Temps: 1, Decls: []api.Decl{{Kind: api.DVar, Name: "v"}, {Kind: kind, Name: "a", Size: 4}}}
		f.Code = list(load(1), store(1))
		n := codeNeed(t, f)
		is(t, fmt.Sprint("kind ", kind), []any{n.Paths, n.Terms, n.Queries, n.Clauses, n.Room}, []any{1, 16, 2, 4*(336+64) + 4*(336+656+64), 4 * (336 + 656 + 64)})
	}
}

// TestArguments: what the arguments are, and where the result goes, does not count (P2001).
func TestArguments(t *testing.T) {
	want := codeNeed(t, base(8, ins(api.EAdd), ins(api.EDiv), ins(api.ESel), load(array(4)), store(array(4)), ins(api.FRelease), ins(api.FCopy)))
	for _, a := range []api.Arg{number(0), number(255), {Temp: 1}, {Temp: 2}, {Temp: 9}} {
		f := base(8, api.Ins{Op: api.EAdd, Dst: 9, A: a, B: a}, api.Ins{Op: api.EDiv, Dst: 2, A: a, B: a}, api.Ins{Op: api.ESel, Dst: 4, A: a, B: a, C: a},
			api.Ins{Op: api.FLoad, Array: array(4), Dst: 1, A: a}, api.Ins{Op: api.FStore, Array: array(4), A: a, B: a}, api.Ins{Op: api.FRelease, A: a}, api.Ins{Op: api.FCopy, Dst: 3, A: a})
		f.Temps = 10
		needIs(t, fmt.Sprint(a), codeNeed(t, f), want)
	}
}

// TestInARow: gates add up; a query counts those that stand ahead of it, and its own (P2001).
func TestInARow(t *testing.T) {
	codeIs(t, "nothing", "1 0 0 0 0 0")
	codeIs(t, "no query", "1 4 0 0 0 0", ins(api.EMul), ins(api.EAdd))
	codeIs(t, "ahead of a query", "1 6 1 6496 4095 6496", ins(api.EMul), ins(api.EAdd), ins(api.EDiv))
	codeIs(t, "behind it", "1 6 1 4640 4095 4640", ins(api.EDiv), ins(api.EMul), ins(api.EAdd))
	codeIs(t, "between two", "1 6 2 15200 8190 10560", ins(api.EDiv), ins(api.EMul), ins(api.ERem))
}
