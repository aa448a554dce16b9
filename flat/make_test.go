package flat

import (
	"fmt"
	"math"
	"strings"
	"testing"

	"cadence/api"
	"cadence/bits"
	"cadence/run"
	"cadence/wf"
)

// kindText: an expression of any kind but ENum, EName, ELoad, with that many of the parts.
func kindText(kind int, parts ...string) string {
	switch kind {
	case api.ECom:
		return "~" + parts[0]
	case api.ENeg:
		return "-" + parts[0]
	case api.ESel:
		return "sel(" + strings.Join(parts, ", ") + ")"
	}
	return joinedText(kind, parts[0], parts[1])
}

// TestKindTexts: the texts above are of the kinds that they stand for.
func TestKindTexts(t *testing.T) {
	is(t, "how many words", len(kindWords()), api.ESel-api.ECom+1)
	for kind := api.ECom; kind <= api.ESel; kind++ {
		p := parsed(t, "secret k; out x; begin x = "+kindText(kind, "k", "x", "1")+"; end")
		is(t, "the kind", p.Body[0].E.Kind, kind)
		is(t, "its parts", len(p.Body[0].E.Kids), partsOf(kind))
	}
}

// TestKinds: what an expression of each kind becomes, of singles, of numbers alone, and of both (F19.1).
func TestKinds(t *testing.T) {
	const head = "width 8; secret k; secret l; secret m; out x; begin x = "
	for kind := api.ECom; kind <= api.ESel; kind++ {
		word, n := kindWords()[kind-api.ECom], partsOf(kind)
		for mask := range 1 << n { // a bit for each part that is a number
			var parts, args []string
			for i := range n {
				if mask>>i&1 == 1 {
					parts, args = append(parts, fmt.Sprint(200-7*i)), append(args, fmt.Sprint(200-7*i))
				} else {
					parts, args = append(parts, []string{"k", "l", "m"}[i]), append(args, fmt.Sprint("t", i))
				}
			}
			text := kindText(kind, parts...)
			want := fmt.Sprintf("t4 = %s %s; t3 = copy t4", word, strings.Join(args, " "))
			temps := 5
			if mask == 1<<n-1 && kind != api.EDiv && kind != api.ERem {
				want = "t3 = copy " + bits.Text(plainWord(kind, 8, []uint64{200, 193, 186}[:n]))
				temps = 4
			}
			f := makesCode(t, head+text+"; end", want)
			is(t, text, f.Temps, temps)
		}
	}
}

// TestConstants: the number that comes out of numbers, by hand, and at the edges of each width (F19.1).
func TestConstants(t *testing.T) {
	for _, r := range []struct {
		width int
		expr  string
		want  string
	}{
		{8, "~15", "240"}, {4, "~0", "15"}, {64, "~0", "0xffffffffffffffff"}, {8, "-1", "255"}, {4, "-3", "13"}, {8, "-0", "0"},
		{8, "16 * 16", "0"}, {8, "255 * 255", "1"}, {8, "200 + 100", "44"}, {4, "15 + 15", "14"}, {8, "1 - 2", "255"}, {64, "0 - 1", "0xffffffffffffffff"},
		{8, "3 << 7", "128"}, {8, "3 << 8", "3"}, {8, "144 >> 4", "9"}, {8, "144 >> 12", "9"}, {4, "9 <<< 1", "3"}, {4, "9 >>> 1", "12"}, {8, "sar(144, 4)", "249"}, {8, "sar(128, 255)", "255"},
		{8, "240 & 60", "48"}, {8, "240 ^ 60", "204"}, {8, "240 | 60", "252"},
		{8, "5 == 5", "1"}, {8, "5 == 6", "0"}, {8, "5 != 5", "0"}, {8, "5 != 6", "1"}, {8, "5 < 5", "0"}, {8, "5 < 6", "1"}, {8, "127 < 128", "1"}, {8, "5 <= 5", "1"}, {8, "6 <= 5", "0"},
		{8, "5 > 5", "0"}, {8, "6 > 5", "1"}, {8, "128 > 127", "1"}, {8, "5 >= 5", "1"}, {8, "5 >= 6", "0"}, {8, "slt(255, 0)", "1"}, {8, "slt(0, 255)", "0"}, {8, "slt(128, 127)", "1"}, {8, "slt(5, 5)", "0"},
		{8, "sel(1, 7, 9)", "7"}, {8, "sel(0, 7, 9)", "9"}, {8, "sel(128, 7, 9)", "7"},
		{8, "2 * 3 + ~(1 << 2)", "1"}, {16, "999 + 1", "0x3e8"}, {16, "1000 - 1", "999"}, {32, "sel(1 < 2, 3 ^ 1, 4)", "2"},
	} {
		makesCode(t, fmt.Sprintf("width %d; out x; begin x = %s; end", r.width, r.expr), "t0 = copy "+r.want)
	}
	for _, width := range widths() {
		for kind := api.ECom; kind <= api.ESel; kind++ {
			for _, a := range edges(width) {
				for _, b := range edges(width) {
					of := []uint64{a, b, 2}[:partsOf(kind)]
					want := plainWord(kind, width, of)
					if got := made(kind, width, [3]uint64{a, b, 2}); got != want {
						t.Fatalf("%s of %v, %d bits: %d, not %d", kindWords()[kind-api.ECom], of, width, got, want)
					}
				}
			}
		}
	}
}

// TestDivisions: a division of numbers alone stays, by 0 too, and so does what is made of it (F19.1).
func TestDivisions(t *testing.T) {
	for _, r := range []struct{ expr, code, state, trace string }{
		{"7 / 2", "t1 = div 7 2; t0 = copy t1", "(3)", "divide 7 2"},
		{"7 % 2", "t1 = rem 7 2; t0 = copy t1", "(1)", "divide 7 2"},
		{"7 / 0", "t1 = div 7 0; t0 = copy t1", "(255)", "divide 7 0"},
		{"7 % 0", "t1 = rem 7 0; t0 = copy t1", "(7)", "divide 7 0"},
		{"0 / 0", "t1 = div 0 0; t0 = copy t1", "(255)", "divide 0 0"},
		{"(3 + 4) / (1 * 2)", "t1 = div 7 2; t0 = copy t1", "(3)", "divide 7 2"},
		{"7 / 2 + 1", "t1 = div 7 2; t2 = add t1 1; t0 = copy t2", "(4)", "divide 7 2"},
		{"7 / (4 % 3)", "t1 = rem 4 3; t2 = div 7 t1; t0 = copy t2", "(7)", "divide 4 3; divide 7 1"},
		{"9 / 2 / 3", "t1 = div 9 2; t2 = div t1 3; t0 = copy t2", "(1)", "divide 9 2; divide 4 3"},
		{"0 * (9 / 2)", "t1 = div 9 2; t2 = mul 0 t1; t0 = copy t2", "(0)", "divide 9 2"},
		{"sel(1, 2, 9 % 4)", "t1 = rem 9 4; t2 = sel 1 2 t1; t0 = copy t2", "(2)", "divide 9 4"},
		{"1 + 2 + 9 / 3", "t1 = div 9 3; t2 = add 3 t1; t0 = copy t2", "(6)", "divide 9 3"},
	} {
		f := makesCode(t, "width 8; out x; begin x = "+r.expr+"; end", r.code)
		endIs(t, f, nil, r.state, r.trace)
	}
}

// TestLoads: at numbers, beyond the array's size too, at temps, and within one another (F19.1, F19.2).
func TestLoads(t *testing.T) {
	const head = "width 8; secret k; out x; const T[4] = 7, 6, 5, 4; var a[2]; const U[1] = 9; begin "
	for _, r := range []struct{ body, code, state, trace string }{
		{"x = T[0];", "t2 = T[0]; t1 = copy t2", "(9) (7) (0 0)", "load 2 0"},
		{"x = T[3];", "t2 = T[3]; t1 = copy t2", "(9) (4) (0 0)", "load 2 3"},
		{"x = T[4];", "t2 = T[4]; t1 = copy t2", "(9) (7) (0 0)", "load 2 0"},
		{"x = T[255];", "t2 = T[255]; t1 = copy t2", "(9) (4) (0 0)", "load 2 3"},
		{"x = U[200];", "t2 = U[200]; t1 = copy t2", "(9) (9) (0 0)", "load 4 0"},
		{"x = T[k];", "t2 = T[t0]; t1 = copy t2", "(9) (6) (0 0)", "load 2 1"},
		{"x = T[1 + 1];", "t2 = T[2]; t1 = copy t2", "(9) (5) (0 0)", "load 2 2"},
		{"x = T[k + 1];", "t2 = add t0 1; t3 = T[t2]; t1 = copy t3", "(9) (5) (0 0)", "load 2 2"},
		{"x = T[T[1]];", "t2 = T[1]; t3 = T[t2]; t1 = copy t3", "(9) (5) (0 0)", "load 2 1; load 2 2"},
		{"x = T[1] + T[2];", "t2 = T[1]; t3 = T[2]; t4 = add t2 t3; t1 = copy t4", "(9) (11) (0 0)", "load 2 1; load 2 2"},
		{"a[7] = 3; x = a[1];", "a[7] = 3; t2 = a[1]; t1 = copy t2", "(9) (3) (0 3)", "store 3 1; load 3 1"},
		{"a[k] = T[k];", "t2 = T[t0]; a[t0] = t2", "(9) (0) (0 6)", "load 2 1; store 3 1"},
		{"a[T[0]] = T[1];", "t2 = T[0]; t3 = T[1]; a[t2] = t3", "(9) (0) (0 6)", "load 2 0; load 2 1; store 3 1"},
		{"a[k + 1] = k * 2;", "t2 = add t0 1; t3 = mul t0 2; a[t2] = t3", "(9) (0) (18 0)", "store 3 0"},
		{"a[2 * 3] = 4 - 5;", "a[6] = 255", "(9) (0) (255 0)", "store 3 0"},
		{"a[a[0]] = 1; a[a[0]] = 2;", "t2 = a[0]; a[t2] = 1; t3 = a[0]; a[t3] = 2", "(9) (0) (1 2)", "load 3 0; store 3 0; load 3 0; store 3 1"},
	} {
		f := makesCode(t, head+r.body+" end", r.code)
		endIs(t, f, inputs(9), r.state, r.trace)
	}
}

// TestOrder: the parts of an expression come from the left, and each instruction behind what it needs (F19.1).
func TestOrder(t *testing.T) {
	const head = "width 8; secret k; secret l; out x; const T[2] = 1, 2; begin x = "
	for _, r := range []struct{ expr, code string }{
		{"(k + 1) * (l + 2)", "t3 = add t0 1; t4 = add t1 2; t5 = mul t3 t4; t2 = copy t5"},
		{"k - l - 3 - 4", "t3 = sub t0 t1; t4 = sub t3 3; t5 = sub t4 4; t2 = copy t5"},
		{"k - (l - (3 - 4))", "t3 = sub t1 255; t4 = sub t0 t3; t2 = copy t4"},
		{"sel(~k, -l, k / l)", "t3 = com t0; t4 = neg t1; t5 = div t0 t1; t6 = sel t3 t4 t5; t2 = copy t6"},
		{"~-~k", "t3 = com t0; t4 = neg t3; t5 = com t4; t2 = copy t5"},
		{"~-~3", "t2 = copy 251"},
		{"k + k", "t3 = add t0 t0; t2 = copy t3"},
		{"k", "t2 = copy t0"},
		{"x", "t2 = copy t2"},
		{"7", "t2 = copy 7"},
		{"(k + 1) + (k + 1)", "t3 = add t0 1; t4 = add t0 1; t5 = add t3 t4; t2 = copy t5"},
		{"T[k] / T[l]", "t3 = T[t0]; t4 = T[t1]; t5 = div t3 t4; t2 = copy t5"},
		{"1 + k + 2 + 3", "t3 = add 1 t0; t4 = add t3 2; t5 = add t4 3; t2 = copy t5"},
		{"1 + 2 + k", "t3 = add 3 t0; t2 = copy t3"},
		{"0 * k", "t3 = mul 0 t0; t2 = copy t3"},
		{"k ^ k", "t3 = xor t0 t0; t2 = copy t3"},
	} {
		makesCode(t, head+r.expr+"; end", r.code)
	}
}

// TestStmts: what each kind of statement becomes (F19.1).
func TestStmts(t *testing.T) {
	const head = "width 8; secret k; var a[4]; public n; out x; const T[2] = 1, 2; var v; begin "
	// temps: k 0, n 1, x 2, v 3
	for _, r := range []struct{ body, code string }{
		{"", ""},
		{"x = 1;", "t2 = copy 1"},
		{"k = n; n = x; v = k;", "t0 = copy t1; t1 = copy t2; t3 = copy t0"},
		{"x = x + 1; x = x + 1;", "t4 = add t2 1; t2 = copy t4; t5 = add t2 1; t2 = copy t5"},
		{"release x;", "release t2"},
		{"release k; release v; release n;", "release t0; release t3; release t1"},
		{"a[n] = v;", "a[t1] = t3"},
		{"a[1] = 2;", "a[1] = 2"},
		{"a[v + 1] = v - 1;", "t4 = add t3 1; t5 = sub t3 1; a[t4] = t5"},
		{"a[1] = a[2];", "t4 = a[2]; a[1] = t4"},
	} {
		makesCode(t, head+r.body+" end", r.code)
	}
}

// TestIfs: of a temp, of a number, with both parts, with one, with none, within one another; temps go on from Then to Else, and behind the if (F19.1).
func TestIfs(t *testing.T) {
	const head = "width 8; secret k; out x; begin "
	for _, r := range []struct{ body, code, state, trace string }{
		{"if k { x = 1; } else { x = 2; }", "if t0 { t1 = copy 1 } else { t1 = copy 2 }", "(5) (1)", "branch 1"},
		{"if k { x = 1; }", "if t0 { t1 = copy 1 }", "(5) (1)", "branch 1"},
		{"if k { } else { x = 2; }", "if t0 { } else { t1 = copy 2 }", "(5) (0)", "branch 1"},
		{"if k { }", "if t0 { }", "(5) (0)", "branch 1"},
		{"if k { } else { }", "if t0 { }", "(5) (0)", "branch 1"},
		{"if 3 { x = 1; } else { x = 2; }", "if 3 { t1 = copy 1 } else { t1 = copy 2 }", "(5) (1)", "branch 1"},
		{"if 0 { x = 1; } else { x = 2; }", "if 0 { t1 = copy 1 } else { t1 = copy 2 }", "(5) (2)", "branch 0"},
		{"if 0 { x = 1; }", "if 0 { t1 = copy 1 }", "(5) (0)", "branch 0"},
		{"if 1 { } else { x = 1; }", "if 1 { } else { t1 = copy 1 }", "(5) (0)", "branch 1"},
		{"if 255 { }", "if 255 { }", "(5) (0)", "branch 1"},
		{"if 1 < 2 { x = 1; }", "if 1 { t1 = copy 1 }", "(5) (1)", "branch 1"},
		{"if 2 < 1 { x = 1; }", "if 0 { t1 = copy 1 }", "(5) (0)", "branch 0"},
		{"if k < 9 { x = 1; }", "t2 = lt t0 9; if t2 { t1 = copy 1 }", "(5) (1)", "branch 1"},
		{"if k { x = k + 1; } else { x = k + 2; } x = k + 3;", "if t0 { t2 = add t0 1; t1 = copy t2 } else { t3 = add t0 2; t1 = copy t3 }; t4 = add t0 3; t1 = copy t4", "(5) (8)", "branch 1"},
		{"if k + 1 { if x + 1 { x = k + 2; } else { x = k + 3; } x = k + 4; } else { if k + 5 { } } x = k + 6;",
			"t2 = add t0 1; if t2 { t3 = add t1 1; if t3 { t4 = add t0 2; t1 = copy t4 } else { t5 = add t0 3; t1 = copy t5 }; t6 = add t0 4; t1 = copy t6 } else { t7 = add t0 5; if t7 { } }; t8 = add t0 6; t1 = copy t8", "(5) (11)", "branch 1; branch 1"},
		{"if k { if 0 { x = 1; } else { if k { } else { release x; } release k; } }", "if t0 { if 0 { t1 = copy 1 } else { if t0 { } else { release t1 }; release t0 } }", "(5) (0)", "branch 1; branch 0; branch 1; release 5"},
		{"if k { for i 0 0 { x = 1; } } else { for i 7 7 { x = 2; } }", "if t0 { }", "(5) (0)", "branch 1"},
		{"if 1 / k { }", "t2 = div 1 t0; if t2 { }", "(5) (0)", "divide 1 5; branch 0"},
		{"if 9 / 2 { x = 1; }", "t2 = div 9 2; if t2 { t1 = copy 1 }", "(5) (1)", "divide 9 2; branch 1"},
	} {
		f := makesCode(t, head+r.body+" end", r.code)
		endIs(t, f, inputs(5), r.state, r.trace)
	}
}

// TestLoops: the names of loops, of loops in loops, at Lo, at Hi less 1; loops that are done no time (F19.1).
func TestLoops(t *testing.T) {
	const head = "width 8; secret k; out x; const T[2] = 5, 6; begin "
	for _, r := range []struct{ body, code string }{
		{"for i 0 0 { x = i; }", ""},
		{"for i 9 9 { x = i; }", ""},
		{"for i 256 256 { x = i; }", ""},
		{"for i 0 1 { x = i; }", "t1 = copy 0"},
		{"for i 3 6 { x = i; }", "t1 = copy 3; t1 = copy 4; t1 = copy 5"},
		{"for i 254 256 { x = i; }", "t1 = copy 254; t1 = copy 255"},
		{"for i 0 5 { }", ""},
		{"for i 1 3 { x = i * 2 + 1; }", "t1 = copy 3; t1 = copy 5"},
		{"for i 1 3 { x = k + i; }", "t2 = add t0 1; t1 = copy t2; t3 = add t0 2; t1 = copy t3"},
		{"for i 1 3 { x = k / i; }", "t2 = div t0 1; t1 = copy t2; t3 = div t0 2; t1 = copy t3"},
		{"for i 0 2 { for j 3 5 { x = i * 10 + j; } }", "t1 = copy 3; t1 = copy 4; t1 = copy 13; t1 = copy 14"},
		{"for i 0 2 { for j 2 2 { x = 9; } x = i; }", "t1 = copy 0; t1 = copy 1"},
		{"for i 2 2 { for j 0 9 { x = 9; } }", ""},
		{"for i 0 2 { x = i; } for i 7 8 { x = i; } for j 4 5 { x = j; }", "t1 = copy 0; t1 = copy 1; t1 = copy 7; t1 = copy 4"},
		{"for i 0 2 { for j 0 1 { x = i; } for j 8 9 { x = j; } x = i; }", "t1 = copy 0; t1 = copy 8; t1 = copy 0; t1 = copy 1; t1 = copy 8; t1 = copy 1"},
		{"for i 0 2 { if i { x = i; } else { x = 7; } }", "if 0 { t1 = copy 0 } else { t1 = copy 7 }; if 1 { t1 = copy 1 } else { t1 = copy 7 }"},
		{"if k { for i 0 2 { x = T[i]; } } else { for i 1 2 { release x; x = i; } }", "if t0 { t2 = T[0]; t1 = copy t2; t3 = T[1]; t1 = copy t3 } else { release t1; t1 = copy 1 }"},
	} {
		makesCode(t, head+r.body+" end", r.code)
	}
	for _, r := range []struct {
		width  int
		lo, hi uint64
	}{
		{4, 0, 16}, {4, 15, 16}, {8, 250, 256}, {16, 65530, 65536}, {32, 1<<32 - 3, 1 << 32}, {64, math.MaxUint64 - 3, math.MaxUint64}, {64, 1 << 63, 1<<63 + 2}, {64, math.MaxUint64, math.MaxUint64},
	} {
		var want []string
		for i := r.lo; i < r.hi; i++ {
			want = append(want, "t0 = copy "+bits.Text(i))
		}
		makesCode(t, fmt.Sprintf("width %d; out x; begin for i %d %d { x = i; } end", r.width, r.lo, r.hi), strings.Join(want, "; "))
	}
}

// TestSingles: a single's temp is its number among the singles, wherever arrays and tables stand (F19.1).
func TestSingles(t *testing.T) {
	f := makesCode(t, "var a[2]; secret k; const T[1] = 3; out x; secret b[4]; public n; begin x = k; n = x; x = n + 1; end", "t1 = copy t0; t2 = copy t1; t3 = add t2 1; t1 = copy t3")
	is(t, "its temps", f.Temps, 4)
	f = makesCode(t, "var a[2]; const T[1] = 3; begin a[0] = 1; end", "a[0] = 1")
	is(t, "no temp", f.Temps, 0)
	endIs(t, f, nil, "(1 0)", "store 0 0")
	f = makesCode(t, "begin if 1 { } end", "if 1 { }")
	is(t, "no declaration", []int{f.Temps, len(f.Decls), f.Width, f.Line}, []int{0, 0, 32, 1})
	f = makesCode(t, "begin end", "")
	is(t, "nothing at all", sizeOf(t, f), 0)
	endIs(t, f, nil, "", "")
	var text, body, want []string
	for i := range 256 {
		text = append(text, fmt.Sprintf("%s d%d; ", []string{"secret", "public", "var", "out"}[i%4], i))
		body = append(body, fmt.Sprintf("d%d = d%d; ", i, 255-i))
		want = append(want, fmt.Sprintf("t%d = copy t%d", i, 255-i))
	}
	f = makesCode(t, strings.Join(text, "")+"begin "+strings.Join(body, "")+"d0 = d1 + 1; end", strings.Join(want, "; ")+"; t256 = add t1 1; t0 = copy t256")
	is(t, "as many declarations as there may be", f.Temps, 257)
}

// TestPairExample: the code that chapter 23 tells of its program.
func TestPairExample(t *testing.T) {
	makesCode(t, "width 8; line 1; secret k; public n; const T[4] = 7, 6, 5, 4; out x; begin x = T[n] + k; if x < 9 { x = T[k]; } end",
		"t3 = T[t1]; t4 = add t3 t0; t2 = copy t4; t5 = lt t2 9; if t5 { t6 = T[t0]; t2 = copy t6 }")
}

// TestHead: Width, Line and Decls are the program's (F19.1).
func TestHead(t *testing.T) {
	for _, text := range []string{"width 4; line 256; begin end", "width 64; line 2; secret k[4]; const T[2] = 1, 0xffffffffffffffff; out x; begin x = T[0]; end", "var v; begin end"} {
		p := parsed(t, text)
		f := madeOf(t, p)
		same(t, text, api.Flat{Width: f.Width, Line: f.Line, Decls: f.Decls}, api.Flat{Width: p.Width, Line: p.Line, Decls: p.Decls})
	}
}

// TestGreatest: programs that are as deep, and as great, as they may be (F19.1, P1901).
func TestGreatest(t *testing.T) {
	const head = "secret k; out x; "
	texts := []string{
		head + "begin x = " + strings.Repeat("~", 63) + "k; end",
		head + "begin " + strings.Repeat("if k { ", 63) + "x = k / 3; " + strings.Repeat("} ", 63) + "end",
		head + "begin " + strings.Repeat("if k { x = x + 1; } else { ", 63) + "x = k; " + strings.Repeat("} ", 63) + "end",
		"secret k; begin " + strings.Repeat("release k; ", 65536) + "end",
		head + "begin for i 0 65535 { } end",
		head + "begin for i 0 13107 { x = k + i; } end",
		head + "begin for i 0 9362 { if k == i { x = i; } } end",
	}
	for _, text := range texts {
		p := parsed(t, text)
		f := madeOf(t, p)
		size, e := wf.Size(p)
		if n := sizeOf(t, f); e != api.OK || n > size {
			t.Fatalf("%d instructions, %d steps (%d)", n, size, e)
		}
		for _, in := range [][]uint64{{0}, {5}, {9000}} {
			want, _ := run.Run(p, in)
			a := ranWith(t, f, in)
			for _, b := range []api.Ended{want, ranWith(t, folded(t, f), in)} {
				if fmt.Sprint(a) != fmt.Sprint(b) {
					t.Fatalf("another run, of %s", shown(p))
				}
			}
			is(t, "Drop's trace", len(ranWith(t, dropped(t, f), in).Trace), len(want.Trace))
		}
	}
	p := parsed(t, texts[3])
	is(t, "as many instructions as steps", sizeOf(t, madeOf(t, p)), 65536)
}
