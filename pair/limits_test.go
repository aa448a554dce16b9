package pair

import (
	"fmt"
	"slices"
	"testing"

	"cadence/api"
	"cadence/eval"
	"cadence/flat"
)

// TestMostIfs: as many ifs as code may have, one behind the other, over as many temps, with all ways that part there kept: it comes soon, and in little room (P2304, P1).
func TestMostIfs(t *testing.T) {
	const n = 1 << 17
	var l []api.Ins
	for i := range n {
		l = append(l, branch(temp(0), list(ins(api.EAdd, 3+i, temp(2+i), number(1))), nil))
	}
	g := start(t, code(t, "width 32; public n; out x;", 1<<20, l...))
	var waiting []*going
	for range n {
		ask := g.w.Next(-1)
		if ask.Kind != Branch {
			t.Fatal(ask)
		}
		then, otherwise := g.fork()
		waiting = append(waiting, otherwise)
		g = then
	}
	g.is(-1, End, "", 2)
	g.so(n, "(not (eq p0 0))")
	is(t, "the last temp", g.words(2+n), fmt.Sprintf("%d | %d", n, n))
	for _, i := range []int{0, 1, n / 2, n - 2, n - 1} {
		w := waiting[i]
		want := "(not (eq p0 0)), (eq p0 0)"
		if i == 0 {
			want = "(eq p0 0)"
		}
		w.so(i+1, want)
		is(t, "where it parted", w.words(2+i)+", "+w.words(3+i), fmt.Sprintf("%d | %d, 0 | 0", i, i))
	}
}

// TestMostAssumptions: as many assumptions as there may be (P2302, P2305).
func TestMostAssumptions(t *testing.T) {
	const n = 1 << 17
	var l []api.Ins
	for range n {
		l = append(l, ins(api.EAdd, 0, temp(0), temp(1)), release(temp(0)))
	}
	g := start(t, code(t, "width 8; secret k; secret s; out x;", 3, l...))
	g.is(-1, End, "", 4*n)
	assumed := g.w.Assumed()
	is(t, "how many", []int{len(assumed), g.w.Events()}, []int{n, n})
	sorted := slices.Clone(assumed)
	slices.Sort(sorted)
	is(t, "how many that differ", len(slices.Compact(sorted)), n)
	is(t, "the first one", g.show(assumed[0]), "(eq (add x0 x1) (add y0 y1))")
	vals := valuesFor(g.f, []uint64{3, 5}, []uint64{3, 5})
	got, e := eval.Values(g.w.Store(), []int{assumed[n-1], g.word(1, 0)}, vals)
	is(t, "the last one, and the word", []any{got, e}, []any{[]uint64{1, (3 + n*5) % 256}, api.OK})
}

// TestGreatPrograms: programs as great as they may be, of which one way is gone, against runs (P2302, P2306).
func TestGreatPrograms(t *testing.T) {
	k := picker(65537)
	for _, text := range []string{
		"width 32; secret k; public n; out x; begin for i 0 9000 { if n { x = x + k; } } end",
		"width 32; secret k; public n; out x; begin x = n; for i 0 5900 { if x & 1 { x = x * 3 + n; } } end",
		"width 8; secret k; public n; out x; var a[256]; begin for i 0 100 { a[n + i] = k + x; if a[n] == k { x = x + a[n]; a[i] = x; } } end",
		"width 64; line 8; secret k; public n; out x; const T[8] = 9, 8, 7, 6, 5, 4, 3, 2; begin for i 0 2000 { x = x <<< 1 ^ T[x ^ k] + n; } end",
		"width 16; secret k[256]; public n; out x; begin for i 0 4600 { k[i] = k[i] * n; x = x ^ k[i]; } end",
	} {
		f := program(t, text)
		x, y := twoInputs(&k, f)
		one, _ := flat.Run(f, x)
		vals := valuesFor(f, x, y)
		g := start(t, f)
		for ask := g.w.Next(-1); ask.Kind != End; ask = g.w.Next(-1) {
			switch ask.Kind {
			case Differ:
				g.agree()
			case Branch:
				then, otherwise := g.fork()
				g = then
				if one.Trace[g.w.Events()-1].A == 0 {
					g = otherwise
				}
			}
		}
		is(t, "events", g.w.Events(), len(one.Trace))
		words, state := []int{}, []uint64{}
		for c := 1; c <= 2; c++ {
			ended, _ := flat.Run(f, [][]uint64{1: x, 2: y}[c])
			if c == 2 && fmt.Sprint(ended.Trace) != fmt.Sprint(one.Trace) { // the other copy's run went another way
				continue
			}
			single, at := 0, 0
			for i, d := range f.Decls {
				switch {
				case d.Kind == api.DConst:
					continue
				case d.Size == 0:
					words, state = append(words, g.word(c, single)), append(state, ended.State[at]...)
					single++
				default:
					words, state = append(words, g.cells(c, i)...), append(state, ended.State[at]...)
				}
				at++
			}
		}
		got, e := eval.Values(g.w.Store(), words, vals)
		is(t, "the words", []any{got, e}, []any{state, api.OK})
	}
}

// TestMostArrays: as many declarations as there may be, all arrays of 256 words, stored to within ifs (P2301, P2302, P2304).
func TestMostArrays(t *testing.T) {
	head := "width 8; public n;"
	for i := range 15 {
		head += fmt.Sprintf(" secret s%d[256];", i)
	}
	for i := range 240 {
		head += fmt.Sprintf(" var v%d[256];", i)
	}
	var l []api.Ins
	for i := range 240 {
		l = append(l, branch(temp(0), list(store(16+i, number(1), number(9))), list(store(16+i, number(2), temp(0)))))
	}
	g := start(t, code(t, head, 1, l...))
	var others []*going
	for g.w.Next(-1).Kind == Branch {
		then, otherwise := g.fork()
		others = append(others, otherwise)
		g = then
	}
	is(t, "ways", len(others), 240)
	for i := range 240 {
		is(t, "a cell of the first way", g.show(g.cells(1, 16+i)[1])+" "+g.show(g.cells(2, 16+i)[2]), "9 0")
		others[i].w.Next(-1)
		is(t, "a cell of another one", others[i].show(others[i].cells(2, 16+i)[1])+" "+others[i].show(others[i].cells(1, 16+i)[2]), "0 p0")
	}
}
