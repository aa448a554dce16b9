package ops

import (
	"fmt"
	"testing"

	"cadence/api"
	"cadence/simp"
)

// dump: a term as text, without the line of the roots.
func dump(t *testing.T, m *simp.Maker, root int) string {
	t.Helper()
	text, e := m.Store().Dump(root)
	if e != api.OK {
		t.Fatalf("no term: %d", root)
	}
	return text
}

// sure: a term that no maker refuses.
func sure(t *testing.T, term int, e api.Errno) int {
	t.Helper()
	if e != api.OK {
		t.Fatal(e)
	}
	return term
}

// TestOp: what each operation makes is what the tables of the chapters 22 and 23 say.
func TestOp(t *testing.T) {
	m := simp.New()
	made := Of(m, 8)
	word := func(name string) int { x, e := m.Var(name, 8); return sure(t, x, e) }
	a, b, c := word("a"), word("b"), word("c")
	bin := func(op, a, b int) int { x, e := m.Bin(op, a, b); return sure(t, x, e) }
	un := func(op, a int) int { x, e := m.Un(op, a); return sure(t, x, e) }
	number := func(x uint64) int { k, e := m.Const(8, x); return sure(t, k, e) }
	ite := func(c, a, b int) int { x, e := m.Ite(c, a, b); return sure(t, x, e) }
	flag := func(truth int) int { return ite(truth, number(1), number(0)) }
	rows := map[int]int{
		api.FCopy: a, api.ECom: un(api.OpCom, a), api.ENeg: un(api.OpNeg, a),
		api.EMul: bin(api.OpMul, a, b), api.EDiv: bin(api.OpDiv, a, b), api.ERem: bin(api.OpRem, a, b),
		api.EAdd: bin(api.OpAdd, a, b), api.ESub: bin(api.OpSub, a, b),
		api.EShl: bin(api.OpShl, a, b), api.EShr: bin(api.OpShr, a, b), api.ERol: bin(api.OpRol, a, b), api.ERor: bin(api.OpRor, a, b),
		api.EAnd: bin(api.OpBand, a, b), api.EXor: bin(api.OpBxor, a, b), api.EOr: bin(api.OpBor, a, b), api.ESar: bin(api.OpSar, a, b),
		api.EEq: flag(bin(api.OpEq, a, b)), api.ENe: flag(un(api.OpNot, bin(api.OpEq, a, b))),
		api.ELt: flag(bin(api.OpUlt, a, b)), api.ELe: flag(bin(api.OpUle, a, b)),
		api.EGt: flag(bin(api.OpUlt, b, a)), api.EGe: flag(bin(api.OpUle, b, a)), api.ESlt: flag(bin(api.OpSlt, a, b)),
		api.ESel: ite(un(api.OpNot, bin(api.OpEq, a, number(0))), b, c),
	}
	for op, want := range rows {
		if got := made.Op(op, [3]int{a, b, c}); got != want {
			t.Errorf("the operation %d: %q, not %q", op, dump(t, m, got), dump(t, m, want))
		}
	}
	if len(rows) != api.ELast-api.ECom+2 {
		t.Error("not all of them: ", len(rows))
	}
}

// TestLine: the bits of an index that tell its line.
func TestLine(t *testing.T) {
	for _, r := range []struct {
		width, size, line int
		parts             bool
		want              string
	}{
		{8, 4, 1, true, "2 slice 1 0 2\nroots 2\n"}, {8, 4, 2, true, "2 slice 1 1 1\nroots 2\n"}, {8, 4, 4, false, ""}, {8, 4, 8, false, ""},
		{8, 1, 1, false, ""}, {8, 2, 1, true, "2 slice 1 0 1\nroots 2\n"}, {8, 256, 1, true, "roots 1\n"}, {8, 256, 16, true, "2 slice 1 4 4\nroots 2\n"},
		{4, 256, 1, true, "roots 1\n"}, {4, 256, 8, true, "2 slice 1 3 1\nroots 2\n"}, {4, 256, 16, false, ""}, {4, 256, 256, false, ""},
	} {
		m := simp.New()
		index, _ := m.Var("i", r.width)
		line, parts := Of(m, r.width).Line(index, r.size, r.line)
		if parts != r.parts || parts == (line == 0) {
			t.Fatalf("%+v: %d, %v", r, line, parts)
		}
		if !parts {
			continue
		}
		if got, want := dump(t, m, line), fmt.Sprintf("1 var i %d\n%s", r.width, r.want); got != want {
			t.Errorf("%+v: %q, not %q", r, got, want)
		}
	}
}

// TestTruths: of words, of truths that tell themselves, and of such that do not.
func TestTruths(t *testing.T) {
	m := simp.New()
	made := Of(m, 4)
	a, _ := m.Var("a", 4)
	for _, r := range []struct {
		truth    int
		told, is bool
	}{
		{made.Truth(a), false, false}, {made.Truth(made.Number(0)), true, false}, {made.Truth(made.Number(17)), true, true},
		{made.Unlike(a, a), true, false}, {made.Not(made.Unlike(a, a)), true, true}, {made.Unlike(a, made.Number(3)), false, false},
	} {
		if told, is := made.Tells(r.truth); told != r.told || is != r.is {
			t.Errorf("%q: %v, %v", dump(t, m, r.truth), told, is)
		}
	}
	few, _ := m.Slice(a, 1, 2)
	if got := dump(t, m, made.Wide(few)); got != "1 var a 4\n2 slice 1 1 2\n3 zext 2 4\nroots 3\n" || made.Wide(a) != a {
		t.Errorf("%q", got)
	}
}

// TestFirst: the words of declarations at the beginning.
func TestFirst(t *testing.T) {
	m := simp.New()
	made := Of(m, 8)
	in := []int{made.Number(21), made.Number(22), made.Number(23), made.Number(24)}
	decls := []api.Decl{{Kind: api.DVar}, {Kind: api.DSecret, Size: 2}, {Kind: api.DConst, Size: 2, Values: []uint64{5, 6}},
		{Kind: api.DPublic}, {Kind: api.DOut, Size: 4}, {Kind: api.DPublic, Size: 1}}
	zero := made.Number(0)
	want := [][]int{{zero}, {in[0], in[1]}, {made.Number(5), made.Number(6)}, {in[2]}, {zero, zero, zero, zero}, {in[3]}}
	if got := made.First(decls, in); fmt.Sprint(got) != fmt.Sprint(want) {
		t.Error(got, want)
	}
}

// TestShape: which arguments and results operations have.
func TestShape(t *testing.T) {
	for op := -2; op < 50; op++ {
		want := map[int]int{api.ECom: 1, api.ENeg: 1, api.FCopy: 1, api.FLoad: 1, api.FRelease: 1, api.FIf: 1, api.ESel: 3, api.FStore: 2}[op]
		if op >= api.EMul && op <= api.ESlt {
			want = 2
		}
		dst := op >= api.ECom && op <= api.ESel || op == api.FCopy || op == api.FLoad
		if Arity(op) != want || HasDst(op) != dst || HasArray(op) != (op == api.FLoad || op == api.FStore) {
			t.Error(op, Arity(op), HasDst(op), HasArray(op))
		}
	}
	x := api.Ins{A: api.Arg{Temp: 1}, B: api.Arg{Temp: 2}, C: api.Arg{Temp: -1, Num: 3}}
	if Args(&x) != [3]api.Arg{x.A, x.B, x.C} {
		t.Error(Args(&x))
	}
}
