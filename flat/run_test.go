package flat

import (
	"fmt"
	"math"
	"slices"
	"testing"

	"cadence/api"
)

const runHead = "width 8; line 2; secret k; const T[4] = 7, 6, 5, 4; public n; out x; var a[8]; secret b[2]; out c[1];"

// TestInstructions: what each operation does and shows, by hand: k 0, n 1, x 2; the declarations T 1, a 4, b 5, c 6 (F19.2).
func TestInstructions(t *testing.T) {
	for _, r := range []struct{ code, state, trace string }{
		{"", "(200) (3) (0) (0 0 0 0 0 0 0 0) (10 20) (0)", ""},
		{"t2 = copy 9", "(200) (3) (9) (0 0 0 0 0 0 0 0) (10 20) (0)", ""},
		{"t2 = copy t0", "(200) (3) (200) (0 0 0 0 0 0 0 0) (10 20) (0)", ""},
		{"t2 = copy t3", "(200) (3) (0) (0 0 0 0 0 0 0 0) (10 20) (0)", ""},
		{"t0 = copy t1; t1 = copy t0", "(3) (3) (0) (0 0 0 0 0 0 0 0) (10 20) (0)", ""},
		{"t4 = add t0 100; t2 = copy t4", "(200) (3) (44) (0 0 0 0 0 0 0 0) (10 20) (0)", ""},
		{"t2 = sub t2 1; t2 = sub t2 1", "(200) (3) (254) (0 0 0 0 0 0 0 0) (10 20) (0)", ""},
		{"t2 = div t0 t1", "(200) (3) (66) (0 0 0 0 0 0 0 0) (10 20) (0)", "divide 200 3"},
		{"t2 = rem t0 t2", "(200) (3) (200) (0 0 0 0 0 0 0 0) (10 20) (0)", "divide 200 0"},
		{"t2 = div 5 0", "(200) (3) (255) (0 0 0 0 0 0 0 0) (10 20) (0)", "divide 5 0"},
		{"t2 = sel t0 t1 7; t1 = sel 0 t0 t2", "(200) (3) (3) (0 0 0 0 0 0 0 0) (10 20) (0)", ""},
		{"t2 = T[t1]", "(200) (3) (4) (0 0 0 0 0 0 0 0) (10 20) (0)", "load 1 1"},
		{"t2 = T[6]", "(200) (3) (5) (0 0 0 0 0 0 0 0) (10 20) (0)", "load 1 1"},
		{"t2 = T[t0]", "(200) (3) (7) (0 0 0 0 0 0 0 0) (10 20) (0)", "load 1 0"},
		{"t2 = b[255]", "(200) (3) (20) (0 0 0 0 0 0 0 0) (10 20) (0)", "load 5 0"},
		{"a[t1] = t0; a[12] = 5; t2 = a[3]", "(200) (3) (200) (0 0 0 200 5 0 0 0) (10 20) (0)", "store 4 1; store 4 2; load 4 1"},
		{"b[1] = 7; c[9] = t0; t2 = b[1]", "(200) (3) (7) (0 0 0 0 0 0 0 0) (10 7) (200)", "store 5 0; store 6 0; load 5 0"},
		{"a[t2] = t2; t2 = copy 7; a[t2] = t2", "(200) (3) (7) (0 0 0 0 0 0 0 7) (10 20) (0)", "store 4 0; store 4 3"},
		{"release t0; release 5; release t4", "(200) (3) (0) (0 0 0 0 0 0 0 0) (10 20) (0)", "release 200; release 5; release 0"},
		{"if t0 { t2 = copy 1 } else { t2 = copy 2 }", "(200) (3) (1) (0 0 0 0 0 0 0 0) (10 20) (0)", "branch 1"},
		{"if t2 { t2 = copy 1 } else { t2 = copy 2 }", "(200) (3) (2) (0 0 0 0 0 0 0 0) (10 20) (0)", "branch 0"},
		{"if 128 { } if 0 { } if t4 { } else { release 1 }", "(200) (3) (0) (0 0 0 0 0 0 0 0) (10 20) (0)", "branch 1; branch 0; branch 0; release 1"},
		{"if t0 { t0 = copy 0; if t0 { release 1 } else { release 2 } release 3 } else { release 4 } release 5", "(0) (3) (0) (0 0 0 0 0 0 0 0) (10 20) (0)", "branch 1; branch 0; release 2; release 3; release 5"},
		{"if t1 { t4 = T[t1]; t2 = div t4 t1 } t2 = add t2 t4", "(200) (3) (5) (0 0 0 0 0 0 0 0) (10 20) (0)", "branch 1; load 1 1; divide 4 3"},
	} {
		f := read(t, runHead, 5, r.code)
		endIs(t, f, inputs(200, 3, 10, 20), r.state, r.trace)
		sameEnd(t, "a program", f, nil, ranWith(t, f, inputs(200, 3, 10, 20)), plainRun(t, f, inputs(200, 3, 10, 20)))
	}
}

// TestEachOperation: the word of each operation, at the edges of each width, as chapter 17 says of the kind (F19.2).
func TestEachOperation(t *testing.T) {
	for _, width := range widths() {
		for kind := api.ECom; kind <= api.ESel; kind++ {
			x := api.Ins{Op: kind, Dst: 3}
			for i, a := range plainArgs(&x) {
				*a = api.Arg{Temp: i}
			}
			f := bareFlat(t, fmt.Sprintf("width %d; secret k; secret l; secret m; out x;", width), 4)
			f.Code = []api.Ins{x}
			for _, a := range edges(width) {
				for _, b := range edges(width) {
					end := ranWith(t, f, inputs(a, b, 2))
					if want := plainWord(kind, width, []uint64{a, b, 2}[:partsOf(kind)]); end.State[3][0] != want {
						t.Fatalf("%s of %d and %d, %d bits: %d, not %d", kindWords()[kind-api.ECom], a, b, width, end.State[3][0], want)
					}
					seen := ""
					if kind == api.EDiv || kind == api.ERem {
						seen = fmt.Sprintf("divide %d %d", a, b)
					}
					is(t, "what is seen", toldTrace(end.Trace), seen)
				}
			}
		}
	}
}

// TestBeginning: the words that there are at first: inputs in their order, all others 0 (F19.2).
func TestBeginning(t *testing.T) {
	for _, r := range []struct {
		head  string
		temps int
		in    []uint64
		state string
	}{
		{"", 0, nil, ""},
		{"", 7, nil, ""},
		{"const T[2] = 1, 2;", 0, nil, ""},
		{"secret k;", 1, inputs(11), "(11)"},
		{"public n[1];", 0, inputs(11), "(11)"},
		{"var v; secret k[2]; const T[2] = 1, 2; out x[2]; public n; var w; out y; secret l; const U[1] = 9;", 9, inputs(11, 12, 13, 14), "(0) (11 12) (0 0) (13) (0) (0) (14)"},
		{"public a[2]; secret k; public b; secret c[4]; public d[1];", 2, inputs(11, 12, 13, 14, 15, 16, 17, 18, 19), "(11 12) (13) (14) (15 16 17 18) (19)"},
	} {
		endIs(t, bareFlat(t, r.head, r.temps), r.in, r.state, "")
	}
	f := read(t, "width 8; var a[2]; secret k; const T[2] = 8, 9; public n; out x; secret l[2];", 6, "release t0; release t1; release t2; release t3; release t4; release t5; t2 = l[1]; t2 = a[1]; t3 = T[1]; release t3")
	endIs(t, f, inputs(1, 2, 3, 4), "(0 0) (1) (2) (0) (3 4)", "release 1; release 2; release 0; release 0; release 0; release 0; load 5 1; load 0 1; load 2 1; release 9")
}

// TestLengths: inputs of another length; that the code may not be is said first (F19.2).
func TestLengths(t *testing.T) {
	for _, r := range []struct {
		head string
		n    int
	}{
		{"", 0}, {"out x; var v[4]; const T[2] = 1, 2;", 0}, {"secret k;", 1}, {"public n[4]; secret k; out x;", 5}, {"secret b[256]; public c[256];", 512},
	} {
		f := bareFlat(t, r.head, 3)
		ranWith(t, f, make([]uint64, r.n))
		for _, n := range []int{0, 1, r.n - 1, r.n + 1, 2*r.n + 1, 4096, 5000} {
			if n < 0 || n == r.n {
				continue
			}
			a, e := Run(f, make([]uint64, n, n+r.n))
			is(t, r.head, []any{a.State == nil, a.Trace == nil, e}, []any{true, true, api.ErrLength})
			f.Code = []api.Ins{{Op: 99}}
			_, e = Run(f, make([]uint64, n))
			is(t, "code that may not be", e, api.ErrArg)
			f.Code = nil
		}
	}
	f := madeText(t, "out x; begin x = 1; end")
	_, e := Run(f, inputs(1))
	is(t, "the error's number", int(e), 170)
}

// TestHighBits: of what is handed in the lowest bits count (F19.2).
func TestHighBits(t *testing.T) {
	for _, width := range widths() {
		f := read(t, fmt.Sprintf("width %d; secret k; public n[2]; out x;", width), 4, "t1 = copy t0; t2 = n[1]; release t0; t3 = div t2 t0; if t0 { }")
		for _, in := range [][]uint64{{math.MaxUint64, 1, 2}, {1 << 63, 1 << 63, 1 << 63}, {16, 15, 17}, {256, 255, 257}, {1 << 16, 1<<16 - 1, 1<<16 + 1}, {1 << 32, 1<<32 - 1, 1<<32 + 1}, {0x123456789abcdef0, 0xfedcba9876543210, 0x8000000080008088}} {
			low := slices.Clone(in)
			for i := range low {
				low[i] &= top(width)
			}
			a := ranWith(t, f, in)
			sameEnd(t, "low bits", f, in, a, ranWith(t, f, low))
			is(t, "the words", a.State, [][]uint64{{low[0]}, low[1:], {low[0]}})
			is(t, "what is released", a.Trace[1], api.Event{Kind: api.EvRelease, A: low[0]})
		}
	}
}

// TestLines: the line of a load and a store is the index modulo the size, divided by Line (F19.2).
func TestLines(t *testing.T) {
	for line := 1; line <= 256; line *= 2 {
		for size := 1; size <= 256; size *= 2 {
			f := bareFlat(t, fmt.Sprintf("width 16; line %d; secret k; var a[%d];", line, size), 1)
			f.Code = []api.Ins{{Op: api.FLoad, Array: 1, A: temp(0)}, {Op: api.FStore, Array: 1, A: temp(0), B: number(1)}}
			for _, index := range []uint64{0, 1, 2, 3, 7, 100, 255, 256, 257, 65535} {
				f.Code[0].A, f.Code[1].A = number(index), number(index)
				want := index % uint64(size) / uint64(line)
				is(t, fmt.Sprint("line ", line, " size ", size), toldTrace(ranWith(t, f, inputs(9)).Trace), fmt.Sprintf("load 1 %d; store 1 %d", want, want))
			}
		}
	}
}
