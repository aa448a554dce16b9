package run

import (
	"fmt"
	"math"
	"slices"
	"strings"
	"testing"

	"cadence/api"
)

// runFails: Run answers that error and nothing else.
func runFails(t testing.TB, p api.Program, in []uint64, want api.Errno) {
	t.Helper()
	a, e := Run(p, in)
	if e != want || len(a.State) != 0 || len(a.Trace) != 0 {
		t.Fatalf("%v: %v, %d, not the error %d, of %s", in, a, e, want, shown(p))
	}
}

// publicText: an F or a T for each input word.
func publicText(t testing.TB, p api.Program) string {
	t.Helper()
	lengthOf(t, p)
	list, _ := Public(p)
	text := ""
	for _, is := range list {
		text += map[bool]string{true: "T", false: "F"}[is]
	}
	return text
}

// TestInputs: how many input words there are, which of them are public, and where each one goes (P1701, P1702).
func TestInputs(t *testing.T) {
	for _, r := range []struct{ decls, public, state string }{
		{"", "", ""},
		{"var v; out x; const T[2] = 1, 2; var a[4]; out y[1];", "", "(0) (0) (0 0 0 0) (0)"},
		{"const T[1] = 3;", "", ""},
		{"secret k;", "F", "(11)"},
		{"public n;", "T", "(11)"},
		{"secret k[1];", "F", "(11)"},
		{"public n[1];", "T", "(11)"},
		{"public n; secret k;", "TF", "(11) (12)"},
		{"secret k; public n;", "FT", "(11) (12)"},
		{"secret k[4];", "FFFF", "(11 12 13 14)"},
		{"public a[2]; secret k; public b; secret c[4]; public d[1];", "TTFTFFFFT", "(11 12) (13) (14) (15 16 17 18) (19)"},
		{"secret a; secret b[2]; secret c;", "FFFF", "(11) (12 13) (14)"},
		{"public a; public b[2]; public c;", "TTTT", "(11) (12 13) (14)"},
		{"var v; secret k[2]; const T[2] = 1, 2; out x[2]; public n; var w; out y; secret l; const U[1] = 9;", "FFTF", "(0) (11 12) (0 0) (13) (0) (0) (14)"},
		{"secret z; public y; secret x; public w;", "FTFT", "(11) (12) (13) (14)"},
	} {
		p := parsed(t, "width 8; "+r.decls+" begin end")
		is(t, r.decls, publicText(t, p), r.public)
		is(t, r.decls, lengthOf(t, p), len(r.public))
		var in []uint64
		for i := range r.public {
			in = append(in, 11+uint64(i))
		}
		endIs(t, "width 8; "+r.decls+" begin end", in, r.state, "")
	}
}

// TestEachKind: the inputs are the words of the public and the secret declarations alone, whatever stands beside them (P1701).
func TestEachKind(t *testing.T) {
	k := picker(1701)
	kinds := []string{"public", "secret", "const", "var", "out"}
	for range 500 {
		text, want, state := "width 16; ", "", []string{}
		next := 0
		for i := range k.below(12) {
			kind, size := pickOf(&k, kinds...), pickOf(&k, 0, 0, 1, 2, 8)
			if kind == "const" {
				text += fmt.Sprintf("const d%d[2] = 1, 2; ", i)
				continue
			}
			text += fmt.Sprintf("%s d%d%s; ", kind, i, map[bool]string{true: fmt.Sprintf("[%d]", size)}[size > 0])
			var list []string
			for range max(size, 1) {
				if kind == "public" || kind == "secret" {
					want += map[string]string{"public": "T", "secret": "F"}[kind]
					list = append(list, fmt.Sprint(1000+next))
					next++
				} else {
					list = append(list, "0")
				}
			}
			state = append(state, "("+strings.Join(list, " ")+")")
		}
		p := parsed(t, text+"begin end")
		is(t, text, publicText(t, p), want)
		var in []uint64
		for i := range next {
			in = append(in, uint64(1000+i))
		}
		endIs(t, text+"begin end", in, strings.Join(state, " "), "")
	}
}

// TestOtherLengths: one too few, one too many, none, and far too many (P1702, P1705).
func TestOtherLengths(t *testing.T) {
	for _, r := range []struct {
		text string
		n    int
	}{
		{"begin end", 0},
		{"const T[2] = 1, 2; out x; var v[4]; begin x = T[1]; end", 0},
		{"secret k; begin end", 1},
		{"public n; out x; begin x = n; end", 1},
		{"secret k; public n[4]; out x; begin x = k / n[1]; end", 5},
		{"public a[256]; begin end", 256},
	} {
		p := parsed(t, r.text)
		is(t, r.text, lengthOf(t, p), r.n)
		endOf(t, p, make([]uint64, r.n))
		leakIs(t, p, make([]uint64, r.n), make([]uint64, r.n), false, 0)
		for _, n := range []int{0, r.n - 1, r.n + 1, r.n + 2, 2*r.n + 1, 4096, 5000} {
			if n < 0 || n == r.n {
				continue
			}
			runFails(t, p, make([]uint64, n), api.ErrLength)
			runFails(t, p, make([]uint64, n, n+r.n), api.ErrLength)
			leakFails(t, p, make([]uint64, n), make([]uint64, r.n), api.ErrLength)
			leakFails(t, p, make([]uint64, n), make([]uint64, n), api.ErrLength)
		}
		if r.n > 0 {
			runFails(t, p, nil, api.ErrLength)
			leakFails(t, p, nil, nil, api.ErrLength)
			leakFails(t, p, nil, make([]uint64, r.n), api.ErrLength)
		} else {
			endOf(t, p, nil)
			leakIs(t, p, nil, words(), false, 0)
		}
	}
}

// TestMostInputs: as many input words as there may be, in as many declarations as there may be (P1701, P1702).
func TestMostInputs(t *testing.T) {
	text, want := "width 16; ", ""
	for i := range 256 {
		text += fmt.Sprintf("%s d%d[16]; ", []string{"secret", "public"}[i%3%2], i)
		want += strings.Repeat([]string{"F", "T"}[i%3%2], 16)
	}
	p := parsed(t, text+"begin d255[15] = d0[0] + d1[1]; end")
	is(t, "public", publicText(t, p), want)
	var in []uint64
	for i := range uint64(4096) {
		in = append(in, i)
	}
	a := endOf(t, p, in)
	in[4095] = 17
	is(t, "its words", slices.Concat(a.State...), in)
	is(t, "its trace", toldTrace(a.Trace), "load 0 0; load 1 1; store 255 15")
}

// TestHighBits: of what is handed in the lowest bits count, as many as the width has (P1702, P1707).
func TestHighBits(t *testing.T) {
	for _, width := range widths() {
		text := fmt.Sprintf("width %d; secret k; public n[2]; out x; var y; begin x = k; if n[1] { y = n[0] / k; } end", width)
		p := parsed(t, text)
		for _, in := range [][]uint64{{math.MaxUint64, 1, 2}, {1 << 63, 1 << 63, 1 << 63}, {16, 15, 17}, {256, 255, 257}, {1 << 16, 1<<16 - 1, 1<<16 + 1}, {1 << 32, 1<<32 - 1, 1<<32 + 1}, {0x123456789abcdef0, 0xfedcba9876543210, 0x8000000080008088}} {
			low := slices.Clone(in)
			for i := range low {
				low[i] &= top(width)
			}
			a, b := endOf(t, p, in), endOf(t, p, low)
			is(t, text, a, b)
			is(t, text, a.State[0][0], low[0])
			is(t, text, a.State[1], low[1:])
			is(t, text, a.State[2][0], low[0])
			leakIs(t, p, in, low, false, 0)
		}
	}
	endIs(t, "width 64; secret k; out x; begin x = k; end", words(math.MaxUint64), "(18446744073709551615) (18446744073709551615)", "")
	endIs(t, "width 4; secret k; out x; begin x = k; end", words(0x19), "(9) (9)", "")
	endIs(t, "secret k; out x; begin x = k; end", words(1<<32|7), "(7) (7)", "")
}
