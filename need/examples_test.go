package need

import "testing"

// TestExamples: those of the chapter.
func TestExamples(t *testing.T) {
	textIs(t, "width 8; secret k; out x; begin x = k + 1; end", "1 4 0 0 0 0")
	textIs(t, "width 4; secret k; public n; out x; begin if n { x = k; } else { x = 1; } if x { x = 0; } end", "4 14 3 2848 12285 1088")
}

// TestWholes: of the whole document's examples, by hand.
func TestWholes(t *testing.T) {
	const head = "width 4; secret k; public n; const T[4] = 1, 2, 3, 4; out x; begin "
	for _, r := range []struct{ body, want string }{
		// a load (g 208), sel, add, copy: a query of 4 * 272.
		{"x = T[n] + sel(k, 1, 2);", "1 14 1 1088 4095 1088"},
		{"x = T[k];", "1 10 1 1088 4095 1088"},
		// lt (g 128), if (g 232): 4 * 296.
		{"if k < 8 { x = 1; }", "2 6 1 1184 4095 1184"},
		// and (32), copy, release (80), if (184): 4 * 248.
		{"x = k & 1; release x; if x { x = n; }", "2 10 1 992 4095 992"},
		// div (1096): 4 * 1160.
		{"x = n / k;", "1 4 1 4640 4095 4640"},
		// xor, xor (64), copy, load (272): 4 * 336.
		{"x = (k ^ n) ^ k; x = T[x];", "1 16 1 1344 4095 1344"},
		// four times load (208) and xor (32): queries at 208, 448, 688, 928; eq and if: at 960 + 128 + 104.
		{"for i 0 4 { x = x ^ T[i]; } if x == n { x = k; }", "2 54 5 15136 20475 5024"},
	} {
		textIs(t, head+r.body+" end", r.want)
	}
}

// TestOrdinary: further programs, by hand.
func TestOrdinary(t *testing.T) {
	for _, r := range []struct{ text, want string }{
		{"width 64; secret k[2]; out x; begin x = k[1] / 2; end", "1 8 2 816288 231584178474632390847141970017375815706539969331281128078915168015826259279870 811616"},
		{"begin end", "1 0 0 0 0 0"},
		{"width 8; out x; begin x = 1 + 2 * 3; end", "1 2 0 0 0 0"},            // a number comes out: one copy
		{"width 4; out x; begin x = 6 / 3; end", "1 4 1 4640 0 4640"},          // a division stays, without any input
		{"width 4; public n; begin for i 0 0 { if n { } } end", "1 0 0 0 0 0"}, // done no time
		{"width 4; public n; begin for i 0 3 { if n { } } end", "8 14 7 8864 105 1504"},
		{"width 8; public n; out a[8]; begin a[n] = n; end", "1 16 1 5184 255 5184"},
		{"width 8; line 256; public n; out a[8]; begin a[n] = n; end", "1 16 1 5184 255 5184"}, // the line does not count
	} {
		textIs(t, r.text, r.want)
	}
}
