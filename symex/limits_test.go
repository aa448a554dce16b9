package symex

import (
	"fmt"
	"slices"
	"strings"
	"testing"

	"cadence/api"
	"cadence/flat"
)

// TestMostIfs: as many ifs as code may have, one behind the other, and as many temps: the first ways come soon, and in little room (F22.4, P1).
func TestMostIfs(t *testing.T) {
	const n = 1 << 18
	b := begin(t, code(t, "width 8; secret k; out x;", 1<<20, slices.Repeat(list(branch(temp(0), nil, nil)), n)...))
	for most := 1; most <= 3; most++ {
		ways, more := b.paths(most)
		is(t, "ways", []any{len(ways), more}, []any{most, true})
		for i, p := range ways { // of the last ifs alone one goes Else
			is(t, "conditions and events", []int{len(p.Conds), len(p.Events)}, []int{n, n})
			is(t, "the last ones", []int{p.Events[n-2].N, p.Events[n-1].N}, []int{1 - i>>1, 1 - i&1})
			is(t, "one far ahead", []any{p.Events[0].N, b.show(p.Conds[0])}, []any{1, set0})
		}
	}
	p := b.follow(b.told(0))
	is(t, "the last way", []any{len(p.Conds), b.show(p.Conds[n-1]), p.Events[0].N}, []any{n, not0, 0})
}

// TestMostTurned: the same of ifs each of which turns temps of which there are very many (F22.4, P1).
func TestMostTurned(t *testing.T) {
	const n = 1 << 16
	var l []api.Ins
	for i := range n {
		l = append(l, branch(temp(0), list(ins(api.EAdd, 2+i, temp(1+i), number(1))), list(ins(api.FCopy, 2+i, temp(1+i)))))
	}
	l = append(l, ins(api.FCopy, 1, temp(1+n)))
	b := begin(t, code(t, "width 16; secret k; out x;", 2+n, l...))
	ways, more := b.paths(4)
	is(t, "ways", []any{len(ways), more}, []any{4, true})
	for i, want := range []string{"0", "65535", "65535", "65534"} {
		is(t, fmt.Sprint("the way ", i), b.showWords(ways[i].State), "(i0) ("+want+")")
	}
	is(t, "the last way", b.showWords(b.follow(nil).State), "(i0) (0)")
}

// TestGreatPrograms: programs as great as they may be, followed and with their first ways, against the run (F22.4, F22.5, P2201).
func TestGreatPrograms(t *testing.T) {
	k := picker(65536)
	for _, text := range []string{
		"width 32; secret k; secret n; out x; begin for i 0 9362 { if k { x = x + 1; } } end",
		"width 32; secret k; secret n; out x; begin x = n; for i 0 5900 { if x & 1 { x = x * 3 + k; } } end",
		"width 8; secret k; secret n; out x; var a[256]; begin for i 0 100 { a[k + i] = n + x; if a[n] == k { x = x + a[x]; a[i] = x; } } end",
		"width 64; line 8; secret k; secret n; out x; const T[8] = 9, 8, 7, 6, 5, 4, 3, 2; begin for i 0 2000 { x = x <<< 1 ^ T[x ^ k] + n; } end",
		"width 16; secret k[256]; secret n; out x; begin for i 0 4600 { k[i] = k[i] * n % 257; x = x ^ k[i]; } end",
	} {
		b := begin(t, program(t, text))
		for range 2 {
			vals := anyValues(&k, b)
			p := b.follow(vals)
			ended, e := flat.Run(b.f, b.values(b.in, vals))
			is(t, "Run", e, api.OK)
			is(t, "events", len(p.Events), len(ended.Trace))
			for _, v := range b.values(p.Conds, vals) {
				is(t, "a condition", v, 1)
			}
			for i, l := range p.State {
				is(t, fmt.Sprint("the words ", i), b.values(l, vals), ended.State[i])
			}
		}
		first, _ := b.paths(1)
		ways, more := b.paths(20)
		is(t, "one way, or more", len(ways) == 20, more)
		samePath(t, "the first way", ways[0], first[0])
	}
}

// TestManyWays: 2^16 ways, all of them, and all but one (F22.4, P2203).
func TestManyWays(t *testing.T) {
	b := begin(t, program(t, "width 16; secret k; out x; begin for i 0 16 { if k >> i & 1 { x = x | (1 << i); } } end"))
	ways, more := b.paths(1 << 16)
	is(t, "ways", []any{len(ways), more}, []any{1 << 16, false})
	for i, p := range ways { // Then comes first, so that the way i has the turned bits of i, from the highest on, for those of x from the lowest on
		want := 0
		for n := range 16 {
			want |= (1 - i>>(15-n)&1) << n
		}
		if got := p.State[1][0]; got != b.constant(uint64(want)) || len(p.Conds) != 16 {
			t.Fatalf("the way %d: %s, not %d, with %d conditions", i, b.show(got), want, len(p.Conds))
		}
	}
	ways, more = b.paths(1<<16 - 1)
	is(t, "ways", []any{len(ways), more}, []any{1<<16 - 1, true})
}

// TestMostArrays: as many declarations as there may be, all arrays, stored to within ifs (F22.2, F22.4).
func TestMostArrays(t *testing.T) {
	head := "width 8; secret k;" + strings.Join(arrays("secret", 15), " ")
	for i := range 240 {
		head += fmt.Sprintf(" var v%d[256];", i)
	}
	var l []api.Ins
	for i := range 240 {
		l = append(l, branch(temp(0), list(store(16+i, number(1), number(9))), list(store(16+i, number(2), temp(0)))))
	}
	b := begin(t, code(t, head, 1, l...))
	ways, more := b.paths(3)
	is(t, "ways", []any{len(ways), more}, []any{3, true})
	for i, want := range [][]string{{"(0 9 0)", "(0 9 0)", "(0 9 0)"}, {"(0 9 0)", "(0 9 0)", "(0 0 i0)"}, {"(0 9 0)", "(0 0 i0)", "(0 9 0)"}} {
		for j, at := range []int{16, 254, 255} {
			is(t, fmt.Sprint("the way ", i, ", the array ", at), b.showWords([][]int{ways[i].State[at][:3]}), want[j])
		}
	}
}
