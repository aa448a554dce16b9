package flow

import (
	"fmt"
	"strings"
	"testing"

	"cadence/api"
)

// signs: how each kind of two parts is written; %s are the parts.
func signs() map[int]string {
	all := map[int]string{api.ESar: "sar(%s, %s)", api.ESlt: "slt(%s, %s)"}
	for i, sign := range strings.Fields("* / % + - << >> <<< >>> & ^ | == != < <= > >=") {
		all[api.EMul+i] = "%s " + strings.ReplaceAll(sign, "%", "%%") + " %s"
	}
	return all
}

// joinedText: an expression of a kind of two parts.
func joinedText(kind int, a, b string) string { return fmt.Sprintf(signs()[kind], a, b) }

// TestSigns: the texts above are of the kinds that they stand for.
func TestSigns(t *testing.T) {
	is(t, "how many", len(signs()), api.ESlt-api.EMul+1)
	for kind := api.EMul; kind <= api.ESlt; kind++ {
		p := parsed(t, "secret k; out x; begin x = "+joinedText(kind, "k", "x")+"; end")
		is(t, "the kind", p.Body[0].E.Kind, kind)
	}
}

const exprHead = "secret k; secret l; secret m; public n; var v; secret s[4]; var a[4]; const T[4] = 1, 2, 3, 4; out x; "

// hangsOn: what an expression hangs on, told of it and of the single that is set to it.
func hangsOn(t testing.TB, ahead, written, want string) {
	t.Helper()
	text := exprHead + "begin " + ahead + " x = " + written + "; end"
	p := parsed(t, text)
	place := len(p.Decls)
	for at, e := range exprsOf(p) { // the statement is the last one: its expression is the first one behind all others that is not part of it
		if fmt.Sprint(e) == fmt.Sprint(p.Body[len(p.Body)-1].E) {
			place = max(place, at)
		}
	}
	is(t, text, told(p, sourcesAt(t, p, place)), want)
	endIs(t, text, "x", want)
}

// TestHangsOn: each kind of expression, by hand (Words of chapter 18).
func TestHangsOn(t *testing.T) {
	for _, r := range []struct{ ahead, written, want string }{
		{"", "7", "-"}, {"", "k", "k"}, {"", "n", "-"}, {"", "v", "-"}, {"", "x", "-"},
		{"v = l;", "v", "l"},
		{"", "~k", "k"}, {"", "-k", "k"}, {"", "~n", "-"}, {"", "-7", "-"}, {"", "~-~k", "k"},
		{"", "T[0]", "-"}, {"", "T[n]", "-"}, {"", "T[k]", "k"}, {"", "T[k + l]", "k l"},
		{"", "s[0]", "s"}, {"", "s[n]", "s"}, {"", "s[k]", "k s"},
		{"", "a[0]", "-"}, {"", "a[l]", "l"}, {"a[0] = k;", "a[1]", "k"}, {"a[0] = k;", "a[m]", "k m"}, {"a[l] = k;", "a[m]", "k l m"},
		{"", "T[s[k]]", "k s"}, {"", "T[T[T[l]]]", "l"}, {"a[0] = l;", "s[a[k]]", "k l s"},
		{"", "sel(k, l, m)", "k l m"}, {"", "sel(k, 1, 2)", "k"}, {"", "sel(n, l, 2)", "l"}, {"", "sel(n, 1, m)", "m"}, {"", "sel(n, 1, 2)", "-"},
		{"", "k ^ k", "k"}, {"", "k - k", "k"}, {"", "k * 0", "k"}, {"", "sel(1, n, k)", "k"}, {"", "k & 0", "k"}, // sources are no values
		{"", "m + l + k", "k l m"}, {"", "s[0] + k * (n - v) + T[m]", "k m s"},
		{"k = 1;", "k", "-"}, {"k = l;", "k", "l"}, {"n = k;", "n", "k"}, {"l = k; k = 0;", "l + k", "k"},
		{"s[0] = 1;", "s[0]", "s"}, {"s[0] = k;", "s[1]", "k s"},
	} {
		hangsOn(t, r.ahead, r.written, r.want)
	}
	for kind := api.EMul; kind <= api.ESlt; kind++ {
		hangsOn(t, "", joinedText(kind, "k", "l"), "k l")
		hangsOn(t, "", joinedText(kind, "l", "k"), "k l")
		hangsOn(t, "", joinedText(kind, "k", "n"), "k")
		hangsOn(t, "", joinedText(kind, "n", "m"), "m")
		hangsOn(t, "", joinedText(kind, "n", "1"), "-")
		hangsOn(t, "", joinedText(kind, "(k + l)", "s[m]"), "k l m s")
	}
}

// TestParts: each part of an expression has its own sources (F18.2).
func TestParts(t *testing.T) {
	p := parsed(t, exprHead+"begin x = sel(k + n, s[l], -(m * T[n])); end")
	// 9 the statement, 10 sel, 11 +, 12 k, 13 n, 14 s[l], 15 l, 16 -, 17 *, 18 m, 19 T[n], 20 n
	want := []string{"k l m s", "k", "k", "-", "l s", "l", "m", "m", "m", "-", "-"}
	for i, sources := range want {
		is(t, fmt.Sprint("place ", 10+i), told(p, sourcesAt(t, p, 10+i)), sources)
	}
	is(t, "places", thingsOf(t, p), 10+len(want))
	p = parsed(t, exprHead+"begin a[k + n] = l - 1; end")
	// 9 the statement, 10 +, 11 k, 12 n, 13 -, 14 l, 15 1
	for i, sources := range []string{"k", "k", "-", "l", "l", "-"} {
		is(t, fmt.Sprint("of a store: ", 10+i), told(p, sourcesAt(t, p, 10+i)), sources)
	}
}

// TestLoopNames: a loop's name hangs on nothing, whatever is around it.
func TestLoopNames(t *testing.T) {
	const head = "secret k; out x; var a[4]; "
	endIs(t, head+"begin for i 0 4 { x = i; } end", "x", "-")
	endIs(t, head+"begin x = k; for i 0 4 { x = i; } end", "x", "-")
	endIs(t, head+"begin for i 0 4 { for j 0 4 { x = i + j; a[j] = i; } } end", "x", "-")
	endIs(t, head+"begin for i 0 4 { x = i + k; } end", "x", "k")
	sourcesAre(t, head+"begin a[0] = k; for i 0 4 { x = a[i]; } end", "i", "-")
	sourcesAre(t, head+"begin a[0] = k; for i 0 4 { x = a[i]; } end", "a[i]", "k")
	highIs(t, head+"begin for i 0 4 { a[i] = k; x = a[i] + 8 / i; if i { x = k; } } end", "")
	highIs(t, head+"begin for i 0 4 { if k { x = i; } } end", "k")
	// one name, of loops one behind the other and of none
	endIs(t, head+"begin for i 0 2 { x = i; } for i 0 2 { x = x + i; } end", "x", "-")
}

// TestManyTimes: an expression's sources are all that it hangs on, each time that it is gone through (F18.2).
func TestManyTimes(t *testing.T) {
	const head = "secret k; secret l; secret m; out x; var a; var b; var c; "
	const rounds = "begin for i 0 3 { x = c + 1; c = b; b = a; a = k; } end"
	sourcesAre(t, head+"begin for i 0 4 { x = c + 1; c = b; b = a; a = k; } end", "c + 1", "k")
	sourcesAre(t, head+rounds, "c + 1", "-") // k comes to c behind it in the last round
	endIs(t, head+rounds, "x", "-")
	endIs(t, head+rounds, "c", "k")
	// other sources each time: that of the first round is gone in the second, but kept
	text := head + "begin a = k; b = l; c = m; for i 0 3 { x = a + 1; a = b; b = c; c = 0; } end"
	sourcesAre(t, text, "a + 1", "k l m")
	sourcesAre(t, strings.Replace(text, "0 3", "0 2", 1), "a + 1", "k l")
	sourcesAre(t, strings.Replace(text, "0 3", "0 1", 1), "a + 1", "k")
	sourcesAre(t, strings.Replace(text, "0 3", "0 0", 1), "a + 1", "-")
	// in two rounds of a loop around a loop, what was released in between
	text = head + "begin a = k; for i 0 2 { for j 0 2 { x = a + 1; release a; } a = l; } end"
	sourcesAre(t, text, "a + 1", "k l")
	p := parsed(t, head+"begin a = k; for i 0 2 { if a { } release a; } end")
	is(t, "high in the first round alone", highTold(t, p), "a")
	p = parsed(t, head+"begin for i 0 2 { if a { } a = k; } release a; end")
	is(t, "high in the second round alone", highTold(t, p), "a")
}
