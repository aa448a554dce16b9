package run

import (
	"fmt"
	"math"
	"strings"
	"testing"

	"cadence/api"
	"cadence/wf"
)

// TestStmts: what each kind of statement does, by hand (P1702).
func TestStmts(t *testing.T) {
	const head = "width 8; secret k; public n; out x; var a[4]; const T[2] = 9, 8; "
	for _, r := range []struct{ body, state, trace string }{
		{"", "(5) (1) (0) (0 0 0 0)", ""},
		{"x = 7;", "(5) (1) (7) (0 0 0 0)", ""},
		{"x = x + 1; x = x + x; x = x + x;", "(5) (1) (4) (0 0 0 0)", ""},
		{"k = 200; x = k; k = k + 100;", "(44) (1) (200) (0 0 0 0)", ""},
		{"n = k; k = n + 1;", "(6) (5) (0) (0 0 0 0)", ""},
		{"a[1] = 3; a[2] = a[1] + 1; x = a[2];", "(5) (1) (4) (0 3 4 0)", "store 3 1; load 3 1; store 3 2; load 3 2"},
		{"a[k] = 3; x = a[1];", "(5) (1) (3) (0 3 0 0)", "store 3 1; load 3 1"},
		{"a[7] = 3; a[3] = a[3] + 1;", "(5) (1) (0) (0 0 0 4)", "store 3 3; load 3 3; store 3 3"},
		{"a[255] = k;", "(5) (1) (0) (0 0 0 5)", "store 3 3"},
		{"a[a[0]] = 2; a[a[0]] = 6;", "(5) (1) (0) (2 0 6 0)", "load 3 0; store 3 0; load 3 0; store 3 2"},
		{"x = 1; a[x] = x; x = 2; a[x] = x;", "(5) (1) (2) (0 1 2 0)", "store 3 1; store 3 2"},
		{"release x; x = k; release x; release k; release n;", "(5) (1) (5) (0 0 0 0)", "release 0; release 5; release 5; release 1"},
		{"if k { x = 1; } else { x = 2; }", "(5) (1) (1) (0 0 0 0)", "branch 1"},
		{"if k - 5 { x = 1; } else { x = 2; }", "(5) (1) (2) (0 0 0 0)", "branch 0"},
		{"if k { x = 1; }", "(5) (1) (1) (0 0 0 0)", "branch 1"},
		{"if 0 { x = 1; }", "(5) (1) (0) (0 0 0 0)", "branch 0"},
		{"if 128 { } if 0 { } if 2 { } else { }", "(5) (1) (0) (0 0 0 0)", "branch 1; branch 0; branch 1"},
		{"if 0 { } else { x = 4; } if 1 { } else { x = 5; }", "(5) (1) (4) (0 0 0 0)", "branch 0; branch 1"},
		{"if k { if n - 1 { x = 1; } else { x = 2; release x; } x = x + 10; } else { x = 3; } x = x + 100;", "(5) (1) (112) (0 0 0 0)", "branch 1; branch 0; release 2"},
		{"if k == 5 { k = 6; if k == 5 { x = 1; } }", "(6) (1) (0) (0 0 0 0)", "branch 1; branch 0"},
		{"if k == 5 { k = 6; } else { x = 9; }", "(6) (1) (0) (0 0 0 0)", "branch 1"},
		{"x = T[0] + T[1]; a[0] = T[3];", "(5) (1) (17) (8 0 0 0)", "load 4 0; load 4 1; load 4 1; store 3 0"},
	} {
		endIs(t, head+"begin "+r.body+" end", words(5, 1), r.state, r.trace)
	}
}

// TestWrittenInputs: inputs are words like others; an input that is an array too (P1702).
func TestWrittenInputs(t *testing.T) {
	const head = "width 8; secret k[2]; public n[2]; secret l; public m; out x; "
	endIs(t, head+"begin k[1] = 7; n[0] = k[1] + k[0]; l = n[0]; m = l + 1; x = m + n[1]; end", words(1, 2, 3, 4, 5, 6), "(1 7) (8 4) (8) (9) (13)", "store 0 1; load 0 1; load 0 0; store 1 0; load 1 0; load 1 1")
	endIs(t, head+"begin m = l; l = 0; release m; release l; end", words(1, 2, 3, 4, 5, 6), "(1 2) (3 4) (0) (5) (0)", "release 5; release 0")
	p := parsed(t, head+"begin l = 3; if l { x = 1; } k[l] = 4; end")
	leakIs(t, p, words(1, 2, 3, 4, 5, 6), words(9, 9, 3, 4, 0, 6), false, 0)
}

// TestLoops: how often, with which number, and in which order (P1702).
func TestLoops(t *testing.T) {
	const head = "width 8; secret k; out x; const T[1] = 0; var a[4]; "
	for _, r := range []struct{ body, state, trace string }{
		{"for i 0 0 { x = 1; release x; }", "(5) (0) (0 0 0 0)", ""},
		{"for i 7 7 { x = 1; release x; }", "(5) (0) (0 0 0 0)", ""},
		{"for i 256 256 { x = 1; release x; }", "(5) (0) (0 0 0 0)", ""},
		{"for i 0 1 { x = i; release x; }", "(5) (0) (0 0 0 0)", "release 0"},
		{"for i 3 6 { x = i; release x; }", "(5) (5) (0 0 0 0)", "release 3; release 4; release 5"},
		{"for i 255 256 { x = i; release x; }", "(5) (255) (0 0 0 0)", "release 255"},
		{"for i 0 4 { }", "(5) (0) (0 0 0 0)", ""},
		{"for i 0 4 { a[i] = i * i; }", "(5) (0) (0 1 4 9)", "store 3 0; store 3 1; store 3 2; store 3 3"},
		{"for i 2 6 { a[i] = i; }", "(5) (0) (4 5 2 3)", "store 3 2; store 3 3; store 3 0; store 3 1"},
		{"for i 0 2 { for j 3 5 { x = x * 10 + i + j; release x; } }", "(5) (117) (0 0 0 0)", "release 3; release 34; release 88; release 117"},
		{"for i 0 3 { for j 2 2 { x = 9; } x = x + i; }", "(5) (3) (0 0 0 0)", ""},
		{"for i 4 4 { for j 0 9 { x = 9; } }", "(5) (0) (0 0 0 0)", ""},
		{"for i 0 2 { x = x + i; } for i 5 7 { x = x + i; } for j 1 2 { x = x + j; }", "(5) (13) (0 0 0 0)", ""},
		{"for i 0 2 { for j 0 2 { x = x + 1; } for j 5 6 { x = x + j; } release x; }", "(5) (14) (0 0 0 0)", "release 7; release 14"},
		{"for i 0 3 { if i == 1 { x = x + 10; } else { x = x + 1; } }", "(5) (12) (0 0 0 0)", "branch 0; branch 1; branch 0"},
		{"if k { for i 0 2 { release k; k = k + 1; } } else { for i 0 9 { release x; } }", "(7) (0) (0 0 0 0)", "branch 1; release 5; release 6"},
		{"for i 1 3 { x = k / i; }", "(5) (2) (0 0 0 0)", "divide 5 1; divide 5 2"},
	} {
		endIs(t, head+"begin "+r.body+" end", words(5), r.state, r.trace)
	}
}

// TestWholeLoops: loops up to 2 to the width-th, and to the greatest bound of 64 bits (P1702).
func TestWholeLoops(t *testing.T) {
	for _, r := range []struct {
		width  int
		lo, hi uint64
	}{
		{4, 0, 16}, {4, 15, 16}, {4, 16, 16}, {8, 0, 256}, {8, 250, 256}, {16, 65000, 65536}, {32, 1<<32 - 5, 1 << 32}, {32, 1<<32 - 1, 1 << 32}, {32, 0, 300},
		{64, 1<<32 - 2, 1<<32 + 2}, {64, math.MaxUint64 - 5, math.MaxUint64}, {64, math.MaxUint64 - 1, math.MaxUint64}, {64, math.MaxUint64, math.MaxUint64}, {64, 1 << 63, 1<<63 + 3},
	} {
		text := fmt.Sprintf("width %d; out x; out n; begin for i %d %d { n = n + 1; x = i; release x; } end", r.width, r.lo, r.hi)
		var want []string
		for i := r.lo; i < r.hi; i++ {
			want = append(want, fmt.Sprint("release ", i))
		}
		last, count := uint64(0), (r.hi-r.lo)&top(r.width)
		if r.hi > r.lo {
			last = r.hi - 1
		}
		endIs(t, text, nil, fmt.Sprintf("(%d) (%d)", last, count), strings.Join(want, "; "))
	}
	endIs(t, "width 16; out x; begin for i 1 65536 { } end", nil, "(0)", "")
	endIs(t, "width 16; out x; begin for i 0 13107 { x = x ^ i; } end", nil, "(13107)", "")
}

// TestDeep: as deep as a program may be: each loop's number, and each part of an expression (P1702, P1).
func TestDeep(t *testing.T) {
	body, sum := "x = i1", 0
	for i := range 63 {
		sum += i
		if i > 1 {
			body += fmt.Sprint(" + i", i)
		}
	}
	body += ";"
	for i := 62; i >= 0; i-- {
		body = fmt.Sprintf("for i%d %d %d { %s }", i, i, i+1, body)
	}
	endIs(t, "out x; begin "+body+" end", nil, fmt.Sprintf("(%d)", sum), "")
	text := "k"
	for range 63 {
		text = "~" + text
	}
	endIs(t, "width 8; secret k; out x; begin x = "+text+"; end", words(5), "(5) (250)", "")
	text, trace := "k", ""
	for i := range 63 {
		text = "T[" + text + "]"
		trace += fmt.Sprintf("load 1 %d; ", []int{1, 0, 3, 2}[i%4])
	}
	endIs(t, "width 8; secret k; const T[4] = 3, 0, 1, 2; out x; begin x = "+text+"; end", words(5), "(5) (2)", trace[:len(trace)-2])
}

// TestFull: a trace that is just as long as the program's size, up to the greatest one (P1702, P1706).
func TestFull(t *testing.T) {
	for _, n := range []int{0, 1, 2, 100, 65536} {
		p := parsed(t, "secret k; begin "+strings.Repeat("release k;", n)+" end")
		size, e := wf.Size(p)
		is(t, "the size", []any{size, e}, []any{n, api.OK})
		a := endOf(t, p, words(7))
		is(t, "the events", len(a.Trace), n)
		for _, v := range a.Trace {
			if v != (api.Event{Kind: api.EvRelease, A: 7}) {
				t.Fatal(v)
			}
		}
		leakIs(t, p, words(7), words(8), false, 0)
	}
	p := parsed(t, "width 32; secret k; out x; var a[2]; begin for i 0 7281 { a[i] = k / i; x = a[i]; } end")
	size, e := wf.Size(p)
	is(t, "nearly as great", []any{size, e}, []any{1 + 7281*9, api.OK})
	is(t, "its events", len(endOf(t, p, words(7)).Trace), 7281*3)
}
