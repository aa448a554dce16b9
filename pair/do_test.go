package pair

import (
	"fmt"
	"testing"

	"cadence/api"
	"cadence/eval"
	"cadence/flat"
)

// threeWords: singles of all kinds: secret a, public b, secret c, and out x.
const threeWords = "secret a; public b; secret c; out x;"

// inX: a text of a row for the one copy: its words are x0, p1, x2.
func inX(row string) string { return inCopy(row, "x") }

// inY: for the other one.
func inY(row string) string { return inCopy(row, "y") }

// inCopy: with the names for the words a, b, c, which stand in the rows as $a, $b, $c.
func inCopy(row, name string) string {
	out := ""
	for i := 0; i < len(row); i++ {
		if row[i] != '$' {
			out += row[i : i+1]
			continue
		}
		i++
		out += map[byte]string{'a': name + "0", 'b': "p1", 'c': name + "2"}[row[i]]
	}
	return out
}

// wordRows: what each operation makes of a, b, c, made simple.
func wordRows() map[int]string {
	return map[int]string{
		api.FCopy: "$a",
		api.ECom:  "(com $a)", api.ENeg: "(neg $a)",
		api.EMul: "(mul $a $b)", api.EDiv: "(div $a $b)", api.ERem: "(rem $a $b)", api.EAdd: "(add $a $b)", api.ESub: "(sub $a $b)",
		api.EShl: "(shl $a $b)", api.EShr: "(shr $a $b)", api.ERol: "(rol $a $b)", api.ERor: "(ror $a $b)",
		api.EAnd: "(band $a $b)", api.EXor: "(bxor $a $b)", api.EOr: "(bor $a $b)",
		api.EEq: "(ite (eq $a $b) 1 0)", api.ENe: "(ite (eq $a $b) 0 1)",
		api.ELt: "(ite (ult $a $b) 1 0)", api.ELe: "(ite (ult $b $a) 0 1)",
		api.EGt: "(ite (ult $b $a) 1 0)", api.EGe: "(ite (ult $a $b) 0 1)",
		api.ESar: "(sar $a $b)", api.ESlt: "(ite (slt $a $b) 1 0)",
		api.ESel: "(ite (eq $a 0) $c $b)",
	}
}

// TestOperations: what each operation makes in either copy, and whether something must be shown and there is an event (P2302).
func TestOperations(t *testing.T) {
	rows := wordRows()
	is(t, "operations", len(rows), len(wordOps()))
	for _, w := range widths() {
		for op, want := range rows {
			g := start(t, code(t, fmt.Sprintf("width %d; ", w)+threeWords, 6, ins(op, 4, []api.Arg{temp(0), temp(1), temp(2)}[:partsOf(op)]...)))
			events := 0
			if op == api.EDiv || op == api.ERem {
				g.is(-1, Differ, "(not (eq x0 y0))", 2)
				g.so(0, "")
				is(t, "ahead of Agree", g.words(4), "0 | 0")
				g.agree()
				g.is(-1, End, "", 0)
				events = 1
			} else {
				g.is(-1, End, "", 2)
			}
			g.so(events, "")
			is(t, fmt.Sprint("the operation ", op), g.words(4), inX(want)+" | "+inY(want))
			for i, want := range []string{"x0 | y0", "p1 | p1", "x2 | y2", "0 | 0", "", "0 | 0"} {
				if i != 4 {
					is(t, fmt.Sprint("the temp ", i), g.words(i), want)
				}
			}
		}
	}
}

// TestPlainTerms: of words and numbers of all kinds, what each operation makes in a copy is what the chapter's table says, made by a maker (P2302).
func TestPlainTerms(t *testing.T) {
	k := picker(223)
	for range 10000 {
		width, op, dst := pick(&k, widths()...), pick(&k, wordOps()...), k.below(6)
		var args []api.Arg
		for range partsOf(op) {
			args = append(args, pick(&k, temp(0), temp(1), temp(2), temp(3), temp(4), number(pick(&k, edges(width)...))))
		}
		f := code(t, fmt.Sprintf("width %d; ", width)+threeWords, 6,
			ins(api.EAdd, 3, temp(0), number(1)), ins(api.EEq, 4, temp(2), temp(1)), ins(op, dst, args...))
		g := start(t, f)
		p := newPlain(f)
		for g.w.Next(-1).Kind == Differ {
			g.agree()
			p.next(-1)
			p.agree()
		}
		p.next(-1)
		sameLooks(t, g, p)
	}
}

// TestAllWords: each operation, of words of all widths, comes in either copy to what flat.Run says, under values and of constants (P2302, P2306).
func TestAllWords(t *testing.T) {
	for _, w := range widths() {
		for _, op := range wordOps() {
			f := code(t, fmt.Sprintf("width %d; secret a; secret b; secret c; out x;", w), 4,
				ins(op, 3, []api.Arg{temp(0), temp(1), temp(2)}[:partsOf(op)]...))
			g := start(t, f)
			if g.w.Next(-1).Kind == Differ {
				g.agree()
			}
			words := edges(w)
			for i, x := range words {
				for j, y := range words {
					z := words[(i+j)%len(words)]
					one, _ := flat.Run(f, []uint64{x, y, z})
					two, _ := flat.Run(f, []uint64{y, z, x})
					vals := valuesFor(f, []uint64{x, y, z}, []uint64{y, z, x})
					got, e := eval.Values(g.w.Store(), []int{g.word(1, 3), g.word(2, 3)}, vals)
					is(t, fmt.Sprint(op, " of ", x, y, z), []any{got, e}, []any{[]uint64{one.State[3][0], two.State[3][0]}, api.OK})
				}
				constants(t, f, op, x, words[len(words)-1-i], words[i/2])
			}
		}
	}
}

// constants: an operation of three numbers.
func constants(t testing.TB, f api.Flat, op int, x, y, z uint64) {
	t.Helper()
	f.Code = list(ins(op, 3, []api.Arg{number(x), number(y), number(z)}[:partsOf(op)]...))
	ended, e := flat.Run(f, []uint64{x, y, z})
	is(t, "Run", e, api.OK)
	g := start(t, f)
	g.is(-1, End, "", 2)
	is(t, fmt.Sprint(op, " of the numbers ", x, y, z), g.words(3), fmt.Sprint(ended.State[3][0], " | ", ended.State[3][0]))
}

// TestOwnPart: the words of arguments are those ahead of the instruction, where its Dst is one of them (P2302).
func TestOwnPart(t *testing.T) {
	g := start(t, code(t, "width 8; public k; secret n; var a[2]; out x;", 3,
		ins(api.EDiv, 0, temp(0), temp(0)), ins(api.ESub, 1, number(7), temp(1)), store(2, number(1), number(9)),
		load(2, 2, number(3)), ins(api.ESel, 2, temp(2), temp(2), temp(1))))
	g.is(-1, End, "", 2+2+4+4+2)
	for i, want := range []string{"(div p0 p0) | (div p0 p0)", "(sub 7 x1) | (sub 7 y1)", "9 | 9"} {
		is(t, fmt.Sprint("the temp ", i), g.words(i), want)
	}
}

// TestLoads: of a table, a public array, a secret one, at constants and at words; the index means the place modulo the size (P2302).
func TestLoads(t *testing.T) {
	const head = "width 8; line 4; public n; secret k; const T[4] = 1, 2, 3, 4; public m[4]; secret s[4]; var v[1]; out x;"
	at := func(cells, index string) string {
		c := map[string][]string{"T": {"1", "2", "3", "4"}, "m": {"p2", "p3", "p4", "p5"}, "x": {"x6", "x7", "x8", "x9"}, "y": {"y6", "y7", "y8", "y9"}}[cells]
		bit := func(n int) string { return fmt.Sprintf("(eq (slice %s %d 1) 1:1)", index, n) }
		return "(ite " + bit(1) + " (ite " + bit(0) + " " + c[3] + " " + c[2] + ") (ite " + bit(0) + " " + c[1] + " " + c[0] + "))"
	}
	for _, r := range []struct {
		x    api.Ins
		want string
	}{
		{load(2, 2, number(2)), "3 | 3"},
		{load(2, 2, number(255)), "4 | 4"},
		{load(2, 3, number(5)), "p3 | p3"},
		{load(2, 4, number(4)), "x6 | y6"},
		{load(2, 5, temp(1)), "0 | 0"},
		{load(2, 2, temp(0)), at("T", "p0") + " | " + at("T", "p0")},
		{load(2, 2, temp(1)), at("T", "x1") + " | " + at("T", "y1")},
		{load(2, 3, temp(1)), at("m", "x1") + " | " + at("m", "y1")},
		{load(2, 4, temp(0)), at("x", "p0") + " | " + at("y", "p0")},
		{load(2, 4, temp(1)), at("x", "x1") + " | " + at("y", "y1")},
	} {
		f := code(t, head, 3, r.x)
		g := start(t, f)
		g.is(-1, End, "", 2*int64(f.Decls[r.x.Array].Size))
		is(t, shown(f), g.words(2), r.want)
		g.so(1, "")
	}
}

// TestStores: at constants and at words, of all kinds of words; each copy has its own (P2302).
func TestStores(t *testing.T) {
	const head = "width 8; line 2; public n; secret k; public m[2]; secret s[2]; var v[1]; out x;"
	to := func(index, word, a, b string) string {
		return fmt.Sprintf("(ite (eq (slice %s 0 1) 0:1) %s %s), (ite (eq (slice %s 0 1) 1:1) %s %s)", index, word, a, index, word, b)
	}
	for _, r := range []struct {
		x    api.Ins
		want string
	}{
		{store(2, number(1), number(9)), "p2, 9 | p2, 9"},
		{store(2, number(2), temp(1)), "x1, p3 | y1, p3"},
		{store(3, number(255), temp(0)), "x4, p0 | y4, p0"},
		{store(4, temp(1), temp(1)), "x1 | y1"},
		{store(2, temp(0), number(9)), to("p0", "9", "p2", "p3") + " | " + to("p0", "9", "p2", "p3")},
		{store(2, temp(1), temp(0)), to("x1", "p0", "p2", "p3") + " | " + to("y1", "p0", "p2", "p3")},
		{store(3, temp(1), temp(1)), to("x1", "x1", "x4", "x5") + " | " + to("y1", "y1", "y4", "y5")},
	} {
		f := code(t, head, 3, r.x)
		g := start(t, f)
		g.is(-1, End, "", 2*int64(f.Decls[r.x.Array].Size))
		is(t, shown(f), g.arrays(r.x.Array), r.want)
		g.so(1, "")
		for i := 2; i <= 4; i++ {
			if i != r.x.Array {
				is(t, "another array", g.arrays(i), []string{2: "p2, p3 | p2, p3", 3: "x4, x5 | y4, y5", 4: "0 | 0"}[i])
			}
		}
	}
}

// TestStoresBehind: what was stored is what later loads and stores go by (P2302).
func TestStoresBehind(t *testing.T) {
	g := start(t, code(t, "width 8; line 2; public n; secret k; var v[2]; out x;", 3,
		store(2, number(0), temp(1)), store(2, number(1), temp(0)), load(2, 2, number(0)), store(2, number(0), number(3)), load(0, 2, number(1))))
	g.is(-1, End, "", 20)
	is(t, "v", g.arrays(2), "3, p0 | 3, p0")
	is(t, "t2", g.words(2), "x1 | y1")
	is(t, "t0", g.words(0), "p0 | p0")
	g.so(5, "")
}

// TestRelease: once the assumption that both words are alike, unless it is T or made already; an event always (P2302).
func TestRelease(t *testing.T) {
	const k, both, all = "(eq x0 y0)", "(eq x0 y0), (eq (bxor x0 3) (bxor y0 3))", "(eq x0 y0), (eq (bxor x0 3) (bxor y0 3)), (eq x2 y2)"
	rows := []struct {
		x       api.Ins
		events  int
		assumed string
	}{
		{release(temp(1)), 1, ""}, // a public word: T
		{release(number(7)), 2, ""},
		{release(temp(5)), 3, ""},
		{release(temp(0)), 4, k},
		{ins(api.EXor, 3, temp(0), number(3)), 4, k},
		{release(temp(3)), 5, both},
		{release(temp(0)), 6, both}, // made already
		{release(temp(2)), 7, all},
		{ins(api.ESub, 4, temp(0), number(0)), 7, all},
		{release(temp(4)), 8, all}, // the same term
		{release(temp(3)), 9, all},
		{ins(api.EXor, 4, temp(3), number(3)), 9, all},
		{release(temp(4)), 10, all}, // the same term once more
	}
	f := code(t, "width 8; secret k; public n; secret s; out x;", 6)
	for _, r := range rows {
		f.Code = append(f.Code, r.x)
	}
	g := start(t, f)
	for i, r := range rows {
		if i < len(rows)-1 {
			g.is(2, Room, "", 2)
		} else {
			g.is(2, End, "", 2)
		}
		g.so(r.events, r.assumed)
	}
	for i, want := range []string{"x0 | y0", "p1 | p1", "x2 | y2", "(bxor x0 3) | (bxor y0 3)", "x0 | y0", "0 | 0"} {
		is(t, fmt.Sprint("the temp ", i), g.words(i), want)
	}
}

// TestEvents: what is an event, also where nothing must be shown, and what is none (P2302).
func TestEvents(t *testing.T) {
	const head = "width 8; public n; out x; const T[2] = 1, 2; var v[2];"
	seen := map[int]api.Ins{
		api.EDiv: ins(api.EDiv, 1, temp(0), temp(0)), api.ERem: ins(api.ERem, 1, number(1), number(2)),
		api.FLoad: load(1, 2, temp(0)), api.FStore: store(3, number(0), temp(0)),
		api.FRelease: release(temp(0)), api.FIf: branch(number(1), nil, nil),
	}
	for _, op := range append(wordOps(), api.FLoad, api.FStore, api.FRelease, api.FIf) {
		x, event := seen[op]
		events := 1
		if !event {
			x, events = ins(op, 1, []api.Arg{temp(0), number(1), temp(0)}[:partsOf(op)]...), 0
		}
		g := start(t, code(t, head, 2, x, x, x))
		ask := g.w.Next(-1)
		is(t, fmt.Sprint("the operation ", op), []any{ask.Kind, g.w.Events()}, []any{End, 3 * events})
	}
}
