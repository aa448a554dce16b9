package run

import (
	"fmt"
	"strings"
	"testing"

	"cadence/api"
)

// signs: how each kind of two parts is written; %s are the parts.
func signs() map[int]string {
	all := map[int]string{api.ESar: "sar(%s, %s)", api.ESlt: "slt(%s, %s)"}
	for i, sign := range strings.Fields("* / % + - << >> <<< >>> & ^ | == != < <= > >=") {
		all[api.EMul+i] = "%s " + strings.ReplaceAll(sign, "%", "%%") + " %s"
	}
	return all
}

// joinedText: an expression of a kind of two parts.
func joinedText(kind int, a, b string) string { return fmt.Sprintf(signs()[kind], a, b) }

// TestSigns: the texts above are of the kinds that they stand for.
func TestSigns(t *testing.T) {
	is(t, "how many", len(signs()), api.ESlt-api.EMul+1)
	for kind := api.EMul; kind <= api.ESlt; kind++ {
		p := parsed(t, "secret k; out x; begin x = "+joinedText(kind, "k", "x")+"; end")
		is(t, "the kind", p.Body[0].E.Kind, kind)
	}
}

// TestWords: the word of each kind, by hand (P1702).
func TestWords(t *testing.T) {
	for _, r := range []struct {
		width int
		expr  string
		a, b  uint64
		want  uint64
	}{
		{8, "200", 1, 2, 200}, {64, "0xffffffffffffffff", 1, 2, 1<<64 - 1}, {4, "0", 1, 2, 0},
		{8, "a", 77, 2, 77}, {8, "b", 77, 2, 2},
		{8, "~a", 0x0f, 0, 0xf0}, {4, "~a", 0, 0, 15}, {64, "~a", 0, 0, 1<<64 - 1}, {32, "~a", 1, 0, 1<<32 - 2},
		{8, "-a", 1, 0, 255}, {8, "-a", 0, 0, 0}, {8, "-a", 128, 0, 128}, {4, "-a", 3, 0, 13}, {64, "-a", 1, 0, 1<<64 - 1}, {64, "-a", 1 << 63, 0, 1 << 63},
		{8, "a * b", 16, 16, 0}, {8, "a * b", 15, 17, 255}, {8, "a * b", 255, 255, 1}, {4, "a * b", 7, 9, 15}, {64, "a * b", 1 << 63, 2, 0},
		{8, "a / b", 200, 7, 28}, {8, "a / b", 7, 0, 255}, {8, "a / b", 0, 0, 255}, {4, "a / b", 9, 0, 15}, {64, "a / b", 5, 0, 1<<64 - 1}, {8, "a / b", 7, 8, 0}, {8, "a / b", 255, 1, 255}, {8, "a / b", 255, 255, 1}, {8, "a / b", 128, 255, 0},
		{8, "a % b", 200, 7, 4}, {8, "a % b", 7, 0, 7}, {8, "a % b", 0, 0, 0}, {64, "a % b", 1<<64 - 1, 0, 1<<64 - 1}, {8, "a % b", 7, 8, 7}, {8, "a % b", 255, 1, 0}, {8, "a % b", 128, 255, 128},
		{8, "a + b", 200, 100, 44}, {8, "a + b", 255, 1, 0}, {4, "a + b", 15, 15, 14}, {64, "a + b", 1<<64 - 1, 2, 1},
		{8, "a - b", 1, 2, 255}, {8, "a - b", 200, 100, 100}, {8, "a - b", 0, 255, 1}, {64, "a - b", 0, 1, 1<<64 - 1},
		{8, "a << b", 3, 1, 6}, {8, "a << b", 3, 7, 128}, {8, "a << b", 3, 8, 3}, {8, "a << b", 3, 9, 6}, {8, "a << b", 3, 255, 128}, {4, "a << b", 9, 1, 2}, {64, "a << b", 3, 63, 1 << 63}, {64, "a << b", 3, 64, 3},
		{8, "a >> b", 0x90, 4, 9}, {8, "a >> b", 0x90, 7, 1}, {8, "a >> b", 0x90, 8, 0x90}, {8, "a >> b", 0x90, 12, 9}, {64, "a >> b", 1 << 63, 63, 1}, {64, "a >> b", 1 << 63, 127, 1},
		{4, "a <<< b", 9, 1, 3}, {4, "a <<< b", 9, 4, 9}, {4, "a <<< b", 9, 5, 3}, {4, "a <<< b", 9, 0, 9}, {8, "a <<< b", 0x81, 4, 0x18}, {64, "a <<< b", 1 << 63, 1, 1}, {64, "a <<< b", 5, 64, 5},
		{4, "a >>> b", 9, 1, 12}, {4, "a >>> b", 9, 4, 9}, {4, "a >>> b", 9, 15, 3}, {4, "a >>> b", 9, 0, 9}, {64, "a >>> b", 1, 1, 1 << 63}, {64, "a >>> b", 1, 128, 1},
		{8, "a & b", 0xf0, 0x3c, 0x30}, {8, "a ^ b", 0xf0, 0x3c, 0xcc}, {8, "a | b", 0xf0, 0x3c, 0xfc},
		{8, "a == b", 5, 5, 1}, {8, "a == b", 5, 6, 0}, {8, "a == b", 0, 255, 0}, {8, "a == b", 0, 0, 1}, {8, "a == b", 255, 255, 1},
		{8, "a != b", 5, 5, 0}, {8, "a != b", 5, 6, 1}, {8, "a != b", 0, 255, 1},
		{8, "a < b", 5, 5, 0}, {8, "a < b", 5, 6, 1}, {8, "a < b", 6, 5, 0}, {8, "a < b", 0, 255, 1}, {8, "a < b", 255, 0, 0}, {8, "a < b", 127, 128, 1},
		{8, "a <= b", 5, 5, 1}, {8, "a <= b", 5, 6, 1}, {8, "a <= b", 6, 5, 0}, {8, "a <= b", 255, 0, 0}, {8, "a <= b", 127, 128, 1},
		{8, "a > b", 5, 5, 0}, {8, "a > b", 5, 6, 0}, {8, "a > b", 6, 5, 1}, {8, "a > b", 255, 0, 1}, {8, "a > b", 128, 127, 1},
		{8, "a >= b", 5, 5, 1}, {8, "a >= b", 5, 6, 0}, {8, "a >= b", 6, 5, 1}, {8, "a >= b", 0, 255, 0}, {8, "a >= b", 128, 127, 1},
		{8, "sar(a, b)", 0x90, 4, 0xf9}, {8, "sar(a, b)", 0x70, 4, 7}, {8, "sar(a, b)", 0x80, 7, 255}, {8, "sar(a, b)", 0x80, 8, 0x80}, {8, "sar(a, b)", 0x80, 255, 255}, {64, "sar(a, b)", 1 << 63, 63, 1<<64 - 1}, {4, "sar(a, b)", 8, 1, 12},
		{8, "slt(a, b)", 255, 0, 1}, {8, "slt(a, b)", 0, 255, 0}, {8, "slt(a, b)", 128, 127, 1}, {8, "slt(a, b)", 127, 128, 0}, {8, "slt(a, b)", 5, 5, 0}, {8, "slt(a, b)", 128, 128, 0}, {8, "slt(a, b)", 128, 129, 1}, {64, "slt(a, b)", 1 << 63, 0, 1}, {64, "slt(a, b)", 0, 1 << 63, 0}, {4, "slt(a, b)", 8, 7, 1}, {4, "slt(a, b)", 7, 8, 0},
		{8, "sel(a, b, 9)", 1, 7, 7}, {8, "sel(a, b, 9)", 0, 7, 9}, {8, "sel(a, b, 9)", 128, 7, 7}, {8, "sel(a, b, 9)", 2, 7, 7}, {64, "sel(a, b, 9)", 1 << 63, 7, 7}, {8, "sel(b, 9, a)", 7, 0, 7},
	} {
		p := parsed(t, fmt.Sprintf("width %d; secret a; secret b; out x; begin x = %s; end", r.width, r.expr))
		what := fmt.Sprintf("%s of %d and %d, %d bits", r.expr, r.a, r.b, r.width)
		is(t, what, endOf(t, p, words(r.a, r.b)).State[2][0], r.want)
	}
}

// TestAllWords: each kind of two parts, for all words of 4 bits, and at the edges of each width, against the plain reading (P1702).
func TestAllWords(t *testing.T) {
	for kind := api.EMul; kind <= api.ESlt; kind++ {
		for _, width := range widths() {
			list := edges(width)
			if width == 4 {
				list = words(0, 1, 2, 3, 4, 5, 6, 7, 8, 9, 10, 11, 12, 13, 14, 15)
			}
			p := parsed(t, fmt.Sprintf("width %d; secret a; secret b; out x; begin x = %s; end", width, joinedText(kind, "a", "b")))
			for _, a := range list {
				for _, b := range list {
					end := endOf(t, p, words(a, b))
					want := ""
					if kind == api.EDiv || kind == api.ERem {
						want = fmt.Sprintf("divide %d %d", a, b)
					}
					is(t, shown(p), toldTrace(end.Trace), want)
				}
			}
		}
	}
}

// TestOthers: the kinds of one and of three parts likewise, and numbers.
func TestOthers(t *testing.T) {
	for _, width := range widths() {
		for _, expr := range []string{"~a", "-a", "~-a", "-~a", "sel(a, ~a, -a)", "sel(~a, 1, 2)", "sel(1, a, 2)", "sel(0, 1, a)"} {
			p := parsed(t, fmt.Sprintf("width %d; secret a; out x; begin x = %s; end", width, expr))
			for _, a := range edges(width) {
				is(t, expr, toldTrace(endOf(t, p, words(a)).Trace), "")
			}
		}
		for _, n := range edges(width) {
			text := fmt.Sprintf("width %d; out x; begin x = %d; end", width, n)
			endIs(t, text, nil, fmt.Sprintf("(%d)", n), "")
		}
	}
}

// TestLikeWords: each compare says of all words of 4 bits what the others leave it to say (P1702).
func TestLikeWords(t *testing.T) {
	p := parsed(t, "width 4; secret a; secret b; out x[8]; begin x[0] = a == b; x[1] = a != b; x[2] = a < b; x[3] = a <= b; x[4] = a > b; x[5] = a >= b; x[6] = slt(a, b); end")
	for a := range uint64(16) {
		for b := range uint64(16) {
			x := endOf(t, p, words(a, b)).State[2]
			is(t, "unlike", x[1], 1-x[0])
			is(t, "not above", x[3], 1-x[4])
			is(t, "not below", x[5], 1-x[2])
			is(t, "one of three", x[0]+x[2]+x[4], 1)
			signed := x[2]
			if a >= 8 != (b >= 8) {
				signed = x[4]
			}
			is(t, "signed", x[6], signed)
		}
	}
}

// TestLoads: the word at the index modulo the size, and its line (P1702).
func TestLoads(t *testing.T) {
	const head = "width 8; secret k; var a[4]; const T[4] = 50, 60, 70, 80; secret b[2]; out x; "
	for _, r := range []struct{ text, state, trace string }{
		{"begin x = T[0]; end", "(5) (0 0 0 0) (21 22) (50)", "load 2 0"},
		{"begin x = T[3]; end", "(5) (0 0 0 0) (21 22) (80)", "load 2 3"},
		{"begin x = T[4]; end", "(5) (0 0 0 0) (21 22) (50)", "load 2 0"},
		{"begin x = T[k]; end", "(5) (0 0 0 0) (21 22) (60)", "load 2 1"},
		{"begin x = T[255]; end", "(5) (0 0 0 0) (21 22) (80)", "load 2 3"},
		{"begin x = b[1]; end", "(5) (0 0 0 0) (21 22) (22)", "load 3 1"},
		{"begin x = b[2]; end", "(5) (0 0 0 0) (21 22) (21)", "load 3 0"},
		{"begin x = a[2]; end", "(5) (0 0 0 0) (21 22) (0)", "load 1 2"},
		{"begin x = T[T[0]]; end", "(5) (0 0 0 0) (21 22) (70)", "load 2 0; load 2 2"},
		{"begin x = b[T[k]] + T[b[k]]; end", "(5) (0 0 0 0) (21 22) (91)", "load 2 1; load 3 0; load 3 1; load 2 2"},
	} {
		endIs(t, head+r.text, words(5, 21, 22), r.state, r.trace)
	}
	endIs(t, "line 2; "+head+"begin x = T[3] + T[1] + T[6] + a[2]; end", words(5, 21, 22), "(5) (0 0 0 0) (21 22) (210)", "load 2 1; load 2 0; load 2 1; load 1 1")
	endIs(t, "line 256; "+head+"begin x = T[3] + b[1]; end", words(5, 21, 22), "(5) (0 0 0 0) (21 22) (102)", "load 2 0; load 3 0")
}

// TestLines: loads and stores at, below and above the size, for each size and each line (P1702).
func TestLines(t *testing.T) {
	for size := 1; size <= 256; size *= 2 {
		for line := 1; line <= 256; line *= 2 {
			for _, width := range []int{4, 8, 16, 64} {
				text := fmt.Sprintf("width %d; line %d; secret k; out x; var a[%d]; begin a[k] = 7; x = a[k]; end", width, line, size)
				p := parsed(t, text)
				n := uint64(size)
				for _, k := range []uint64{0, 1, n / 2, n - 1, n, n + 1, 2*n - 1, 2 * n, 3*n + n/2, top(width), top(width) - 1, uint64(line), uint64(line) - 1} {
					k &= top(width)
					a := endOf(t, p, words(k))
					at := k % n
					is(t, text, toldTrace(a.Trace), fmt.Sprintf("store 2 %d; load 2 %d", at/uint64(line), at/uint64(line)))
					is(t, text, a.State[2][at], 7)
					is(t, text, a.State[1][0], 7)
				}
			}
		}
	}
}
