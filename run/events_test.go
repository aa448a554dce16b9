package run

import (
	"fmt"
	"testing"

	"cadence/api"
)

// TestFromTheLeft: the parts of each kind are gone through from the left, each with its events, and then the expression's own (P1702).
func TestFromTheLeft(t *testing.T) {
	const head = "width 8; secret k; const T[8] = 8, 7, 6, 5, 4, 3, 2, 1; out x; var a[8]; "
	run := func(body string) string {
		return toldTrace(endOf(t, parsed(t, head+"begin "+body+" end"), words(5)).Trace)
	}
	for kind := api.EMul; kind <= api.ESlt; kind++ {
		own := ""
		if kind == api.EDiv || kind == api.ERem {
			own = "; divide 7 6"
		}
		is(t, joinedText(kind, "a", "b"), run("x = "+joinedText(kind, "T[1]", "T[2]")+";"), "load 1 1; load 1 2"+own)
		is(t, joinedText(kind, "a", "b"), run("x = "+joinedText(kind, "T[k / 5]", "T[k % 3]")+";"), "divide 5 5; load 1 1; divide 5 3; load 1 2"+own)
	}
	for _, r := range []struct{ body, trace string }{
		{"x = ~T[3];", "load 1 3"},
		{"x = -(k / 2);", "divide 5 2"},
		{"x = T[k / 2];", "divide 5 2; load 1 2"},
		{"x = k / 2 / 3 / 4;", "divide 5 2; divide 2 3; divide 0 4"},
		{"x = k / (k % 2);", "divide 5 2; divide 5 1"},
		{"x = (k + 9) % 4 / (k % 5);", "divide 14 4; divide 5 5; divide 2 0"},
		{"x = k / 0;", "divide 5 0"},
		{"x = k % 0;", "divide 5 0"},
		{"x = 0 / 0 + 0 % 0;", "divide 0 0; divide 0 0"},
		{"x = sel(T[0], T[1], T[2]);", "load 1 0; load 1 1; load 1 2"},
		{"x = sel(a[0], T[1], T[2]);", "load 3 0; load 1 1; load 1 2"},
		{"x = sel(1, k / 2, k / 3);", "divide 5 2; divide 5 3"},
		{"x = sel(0, k / 2, k / 3);", "divide 5 2; divide 5 3"},
		{"x = sel(k / 9, sel(0, 1 / 1, 2 / 2), sel(1, 3 / 3, 4 / 4));", "divide 5 9; divide 1 1; divide 2 2; divide 3 3; divide 4 4"},
		{"x = 0 & k / 2;", "divide 5 2"},
		{"x = 0 * T[1];", "load 1 1"},
		{"a[T[1]] = T[2];", "load 1 1; load 1 2; store 3 7"},
		{"a[k / 2] = k % 3;", "divide 5 2; divide 5 3; store 3 2"},
		{"a[a[0]] = a[1];", "load 3 0; load 3 1; store 3 0"},
		{"if T[1] { x = T[2]; } else { x = T[3]; }", "load 1 1; branch 1; load 1 2"},
		{"if a[1] { x = T[2]; } else { x = T[3]; }", "load 3 1; branch 0; load 1 3"},
		{"if k / 3 { release x; } release k;", "divide 5 3; branch 1; release 0; release 5"},
		{"if k / 3 == 0 { } else { x = 4 / 4; release x; }", "divide 5 3; branch 0; divide 4 4; release 1"},
		{"x = k;", ""},
		{"release k;", "release 5"},
	} {
		is(t, r.body, run(r.body), r.trace)
	}
}

// TestAllThree: what ESel shows does not hang on its first word (P1702).
func TestAllThree(t *testing.T) {
	p := parsed(t, "width 4; secret k; secret l[2]; out x; begin x = sel(k / 3, l[0] % 5, l[1] / 7); end")
	for k := range uint64(16) {
		a := endOf(t, p, words(k, 9, 14))
		is(t, "the trace", toldTrace(a.Trace), fmt.Sprintf("divide %d 3; load 1 0; divide 9 5; load 1 1; divide 14 7", k))
		is(t, "the word", a.State[2][0], map[bool]int{true: 4, false: 2}[k >= 3])
	}
}

// TestNumbers: in events a declaration's number is its place among all of them, tables too (P1702).
func TestNumbers(t *testing.T) {
	text := "width 4; line 1; "
	body, want, state := "", "", ""
	for i := range 256 {
		switch i % 4 {
		case 0:
			text += fmt.Sprintf("const d%d[2] = 1, 2; ", i)
			body += fmt.Sprintf("x = d%d[1]; ", i)
			want += fmt.Sprintf("load %d 1; ", i)
		case 1:
			text += fmt.Sprintf("var d%d[4]; ", i)
			body += fmt.Sprintf("d%d[3] = x; ", i)
			want += fmt.Sprintf("store %d 3; ", i)
			state += "(0 0 0 2) "
		case 2:
			text += fmt.Sprintf("out d%d; ", i)
			body += fmt.Sprintf("release d%d; ", i)
			want += "release 0; "
			state += "(0) "
		case 3:
			name := fmt.Sprint("d", i)
			if i == 255 {
				name = "x"
			}
			text += fmt.Sprintf("var %s; ", name)
			state += map[bool]string{true: "(2) ", false: "(0) "}[i == 255]
		}
	}
	endIs(t, text+"begin "+body+"end", nil, state[:len(state)-1], want[:len(want)-2])
}
