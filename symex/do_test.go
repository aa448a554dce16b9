package symex

import (
	"fmt"
	"testing"

	"cadence/api"
	"cadence/flat"
)

// TestOperations: what each operation makes of i0, i1, i2, made simple, and its event (F22.3).
func TestOperations(t *testing.T) {
	rows := map[int]string{
		api.FCopy: "i0",
		api.ECom:  "(com i0)", api.ENeg: "(neg i0)",
		api.EMul: "(mul i0 i1)", api.EDiv: "(div i0 i1)", api.ERem: "(rem i0 i1)", api.EAdd: "(add i0 i1)", api.ESub: "(sub i0 i1)",
		api.EShl: "(shl i0 i1)", api.EShr: "(shr i0 i1)", api.ERol: "(rol i0 i1)", api.ERor: "(ror i0 i1)",
		api.EAnd: "(band i0 i1)", api.EXor: "(bxor i0 i1)", api.EOr: "(bor i0 i1)",
		api.EEq: "(ite (eq i0 i1) 1 0)", api.ENe: "(ite (eq i0 i1) 0 1)",
		api.ELt: "(ite (ult i0 i1) 1 0)", api.ELe: "(ite (ult i1 i0) 0 1)",
		api.EGt: "(ite (ult i1 i0) 1 0)", api.EGe: "(ite (ult i0 i1) 0 1)",
		api.ESar: "(sar i0 i1)", api.ESlt: "(ite (slt i0 i1) 1 0)",
		api.ESel: "(ite (eq i0 0) i2 i1)",
	}
	is(t, "operations", len(rows), len(wordOps()))
	for _, w := range widths() {
		for op, want := range rows {
			b := begin(t, code(t, fmt.Sprintf("width %d; secret k[2]; secret a; public b; secret c; out x;", w), 6))
			b.in = b.in[2:] // i2, i3, i4
			event, seen := b.do(ins(op, 5, []api.Arg{temp(0), temp(1), temp(2)}[:partsOf(op)]...))
			got := b.show(b.word(temp(5)))
			is(t, fmt.Sprint("the operation ", op), got, later(want))
			if op == api.EDiv || op == api.ERem {
				is(t, "its event", []any{event, seen}, []any{Event{Kind: api.EvDivide, X: b.in[0], Y: b.in[1]}, true})
			} else {
				is(t, "no event", []any{event, seen}, []any{Event{}, false})
			}
			is(t, "all else", b.showWords(b.s.Words()), "(i0 i1) (i2) (i3) (i4) (0)")
			is(t, "another temp", b.word(temp(4)), b.constant(0))
		}
	}
}

// later: a text with i2 for i0, and so on.
func later(text string) string {
	out := []byte(text)
	for i := range out {
		if i > 0 && out[i-1] == 'i' && out[i] >= '0' && out[i] <= '9' {
			out[i] += 2
		}
	}
	return string(out)
}

// TestPlainTerms: what each operation makes, of words and numbers of all kinds, is what the chapter's table says, made by the maker (F22.3).
func TestPlainTerms(t *testing.T) {
	k := picker(223)
	for range 20000 {
		b := begin(t, code(t, fmt.Sprintf("width %d; secret k; public n; out x;", pick(&k, widths()...)), 6))
		b.do(ins(api.EAdd, 3, temp(0), number(1)))
		b.do(ins(api.EEq, 4, temp(0), temp(1)))
		op, dst := pick(&k, wordOps()...), k.below(6)
		var args []api.Arg
		var of [3]int
		for i := range partsOf(op) {
			a := pick(&k, temp(0), temp(1), temp(2), temp(3), temp(4), number(pick(&k, edges(b.f.Width)...)))
			args, of[i] = append(args, a), b.word(a)
		}
		event, seen := b.do(ins(op, dst, args...))
		if got, want := b.word(temp(dst)), plainMade(b.m, b.f.Width, op, of); got != want {
			t.Fatalf("the operation %d of %v: %s, not %s", op, args, b.show(got), b.show(want))
		}
		if op == api.EDiv || op == api.ERem {
			is(t, "its event", []any{event, seen}, []any{Event{Kind: api.EvDivide, X: of[0], Y: of[1]}, true})
		} else {
			is(t, "no event", []any{event, seen}, []any{Event{}, false})
		}
	}
}

// TestAllWords: each operation, of all words of 4 bits, and of some of other widths, comes to what flat.Run says, as a term under values and as a constant (F22.3).
func TestAllWords(t *testing.T) {
	for _, w := range widths() {
		for _, op := range wordOps() {
			words := edges(w)
			if w == 4 {
				words = nil
				for x := range uint64(16) {
					words = append(words, x)
				}
			}
			f := code(t, fmt.Sprintf("width %d; secret a; secret b; secret c; out x;", w), 4,
				ins(op, 3, []api.Arg{temp(0), temp(1), temp(2)}[:partsOf(op)]...))
			b := begin(t, f)
			b.do(f.Code[0])
			for _, x := range words {
				for _, y := range words {
					allWords(t, b, op, x, y, 5)
				}
				allWords(t, b, op, x, 3, x)
			}
		}
	}
}

// allWords: one operation of three words.
func allWords(t testing.TB, b *begun, op int, x, y, z uint64) {
	t.Helper()
	ended, e := flat.Run(b.f, []uint64{x, y, z})
	is(t, "Run", e, api.OK)
	want := ended.State[3][0]
	is(t, fmt.Sprint(op, " of ", x, y, z), b.values([]int{b.word(temp(3))}, b.told(x, y, z))[0], want)
	c := beginWith(t, b.f, b.m, []int{b.constant(x), b.constant(y), b.constant(z)})
	c.do(b.f.Code[0])
	is(t, fmt.Sprint(op, " of the constants ", x, y, z), c.show(c.word(temp(3))), want)
	c.do(ins(op, 0, []api.Arg{number(x), number(y), number(z)}[:partsOf(op)]...))
	is(t, fmt.Sprint(op, " of the numbers ", x, y, z), c.show(c.word(temp(0))), want)
}

// TestOwnPart: the words of arguments are those ahead of the instruction, where its Dst is one of them (F22.3).
func TestOwnPart(t *testing.T) {
	b := begin(t, code(t, "width 8; secret k; secret n; var a[2]; out x;", 3))
	event, seen := b.do(ins(api.EDiv, 0, temp(0), temp(0)))
	is(t, "div t0 t0", []any{b.showEvent(event), seen, b.show(b.word(temp(0)))}, []any{"divide i0 i0", true, "(div i0 i0)"})
	event, _ = b.do(ins(api.ERem, 1, number(7), temp(1)))
	is(t, "rem 7 t1", []any{b.showEvent(event), b.show(b.word(temp(1)))}, []any{"divide 7 i1", "(rem 7 i1)"})
	event, _ = b.do(ins(api.EDiv, 1, number(7), number(0)))
	is(t, "div 7 0", []any{b.showEvent(event), b.show(b.word(temp(1)))}, []any{"divide 7 0", "255"})
	b.do(ins(api.FCopy, 0, number(1)))
	b.do(store(2, number(1), number(9)))
	event, _ = b.do(load(0, 2, temp(0)))
	is(t, "t0 = a[t0]", []any{b.showEvent(event), b.show(b.word(temp(0)))}, []any{"load 2 1", "9"})
	b.do(ins(api.ESel, 0, temp(0), temp(0), temp(1)))
	is(t, "sel t0 t0 t1", b.show(b.word(temp(0))), "9")
}

// TestRelease: its event, and nothing else (F22.3).
func TestRelease(t *testing.T) {
	b := begin(t, code(t, "width 8; secret k; out x; const T[2] = 1, 2;", 3))
	b.do(ins(api.EXor, 1, temp(0), number(3)))
	before := b.showWords(b.s.Words())
	for _, r := range []struct {
		a    api.Arg
		want string
	}{{temp(0), "release i0"}, {temp(1), "release (bxor i0 3)"}, {temp(2), "release 0"}, {number(255), "release 255"}} {
		event, seen := b.do(release(r.a))
		is(t, "release", []any{b.showEvent(event), seen}, []any{r.want, true})
	}
	is(t, "Words", b.showWords(b.s.Words()), before)
}

// TestLater: Words that were told stay as they were, whatever is done behind that; a state goes on where it stood (F22.2, F22.3).
func TestLater(t *testing.T) {
	b := begin(t, code(t, "width 8; secret k; out x; var a[2];", 3))
	first := b.s.Words()
	b.do(ins(api.EAdd, 1, temp(0), temp(0)))
	b.do(store(2, number(1), temp(1)))
	second := b.s.Words()
	b.do(ins(api.EMul, 1, temp(1), temp(0)))
	b.do(store(2, temp(0), number(5)))
	is(t, "at first", b.showWords(first), "(i0) (0) (0 0)")
	is(t, "then", b.showWords(second), "(i0) ((add i0 i0)) (0 (add i0 i0))")
	is(t, "at last", b.showWords(b.s.Words()), "(i0) ((mul (add i0 i0) i0)) ((ite (eq (slice i0 0 1) 0:1) 5 0) (ite (eq (slice i0 0 1) 1:1) 5 (add i0 i0)))")
}
