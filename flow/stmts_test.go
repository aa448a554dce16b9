package flow

import "testing"

const stmtHead = "secret k; secret l; public n; out x; out y; var a[4]; secret s[2]; const T[2] = 1, 2; "

// afterIs: what the declarations of stmtHead hang on behind statements.
func afterIs(t testing.TB, body, want string) {
	t.Helper()
	is(t, body, endsTold(t, parsed(t, stmtHead+"begin "+body+" end")), want)
}

// TestBegin: what each declaration hangs on where nothing is done (Words of chapter 18).
func TestBegin(t *testing.T) {
	afterIs(t, "", "k: k, l: l, n: -, x: -, y: -, a: -, s: s, T: -")
	afterIs(t, "release n; x = 1; a[0] = n; if n { }", "k: k, l: l, n: -, x: -, y: -, a: -, s: s, T: -")
}

// TestSet: a single that is set forgets what it hung on.
func TestSet(t *testing.T) {
	afterIs(t, "x = k;", "k: k, l: l, n: -, x: k, y: -, a: -, s: s, T: -")
	afterIs(t, "x = k; x = l;", "k: k, l: l, n: -, x: l, y: -, a: -, s: s, T: -")
	afterIs(t, "x = k; x = 1;", "k: k, l: l, n: -, x: -, y: -, a: -, s: s, T: -")
	afterIs(t, "x = k; x = x + l;", "k: k, l: l, n: -, x: k l, y: -, a: -, s: s, T: -")
	afterIs(t, "x = k; y = x; x = l;", "k: k, l: l, n: -, x: l, y: k, a: -, s: s, T: -")
	afterIs(t, "k = l; l = 0;", "k: l, l: -, n: -, x: -, y: -, a: -, s: s, T: -")
	afterIs(t, "k = 0; x = k;", "k: -, l: l, n: -, x: -, y: -, a: -, s: s, T: -")
	afterIs(t, "n = k + s[0]; x = n;", "k: k, l: l, n: k s, x: k s, y: -, a: -, s: s, T: -")
	afterIs(t, "x = T[n];", "k: k, l: l, n: -, x: -, y: -, a: -, s: s, T: -")
}

// TestStore: an array keeps what it hung on, and hangs on the index, too.
func TestStore(t *testing.T) {
	afterIs(t, "a[0] = k;", "k: k, l: l, n: -, x: -, y: -, a: k, s: s, T: -")
	afterIs(t, "a[k] = 1;", "k: k, l: l, n: -, x: -, y: -, a: k, s: s, T: -")
	afterIs(t, "a[k] = l;", "k: k, l: l, n: -, x: -, y: -, a: k l, s: s, T: -")
	afterIs(t, "a[0] = k; a[0] = 1;", "k: k, l: l, n: -, x: -, y: -, a: k, s: s, T: -")
	afterIs(t, "a[0] = k; a[1] = l;", "k: k, l: l, n: -, x: -, y: -, a: k l, s: s, T: -")
	afterIs(t, "a[n] = 1;", "k: k, l: l, n: -, x: -, y: -, a: -, s: s, T: -")
	afterIs(t, "s[0] = k; s[1] = 1;", "k: k, l: l, n: -, x: -, y: -, a: -, s: k s, T: -")
	afterIs(t, "a[a[0]] = s[l];", "k: k, l: l, n: -, x: -, y: -, a: l s, s: s, T: -")
	afterIs(t, "a[0] = k; k = 1; l = 2; x = a[2];", "k: -, l: -, n: -, x: k, y: -, a: k, s: s, T: -")
	// what stands in a store is gone through ahead of it
	sourcesAre(t, stmtHead+"begin a[k] = a[0]; end", "a[0]", "-")
	sourcesAre(t, stmtHead+"begin a[a[0]] = k; end", "a[0]", "-")
	sourcesAre(t, stmtHead+"begin a[a[0]] = k; end", "k", "k")
	sourcesAre(t, stmtHead+"begin a[1] = l; a[k] = a[0]; end", "a[0]", "l")
	highIs(t, stmtHead+"begin a[a[0]] = k; end", "")
	highIs(t, stmtHead+"begin a[0] = k; a[a[0]] = 1; end", "a[0]")
	// and so is what a single is set to
	sourcesAre(t, stmtHead+"begin x = x + k; end", "x", "-")
	sourcesAre(t, stmtHead+"begin x = l; x = x + k; end", "x", "l")
}

// TestRelease: what was released hangs on nothing; what was made of it before, and what it was made of, do as they did.
func TestRelease(t *testing.T) {
	afterIs(t, "x = k; release x;", "k: k, l: l, n: -, x: -, y: -, a: -, s: s, T: -")
	afterIs(t, "x = k; y = x; release x;", "k: k, l: l, n: -, x: -, y: k, a: -, s: s, T: -")
	afterIs(t, "x = k; release x; y = x;", "k: k, l: l, n: -, x: -, y: -, a: -, s: s, T: -")
	afterIs(t, "release k; x = k; y = l;", "k: -, l: l, n: -, x: -, y: l, a: -, s: s, T: -")
	afterIs(t, "x = k; release x; x = x + k;", "k: k, l: l, n: -, x: k, y: -, a: -, s: s, T: -")
	afterIs(t, "x = k + l + s[1]; release x; a[x] = x;", "k: k, l: l, n: -, x: -, y: -, a: -, s: s, T: -")
	afterIs(t, "release k; k = l;", "k: l, l: l, n: -, x: -, y: -, a: -, s: s, T: -")
	highIs(t, stmtHead+"begin x = k; release x; if x { y = 1 / x; a[x] = T[x]; } end", "")
	highIs(t, stmtHead+"begin x = k; release x; if k { } end", "k")
	highIs(t, stmtHead+"begin release k; if k { } end", "")
	highIs(t, stmtHead+"begin if k { } release k; end", "k")
}

// TestIf: behind an if stands what stands behind the one part or the other; what E hangs on is no source there.
func TestIf(t *testing.T) {
	afterIs(t, "if n { x = k; }", "k: k, l: l, n: -, x: k, y: -, a: -, s: s, T: -")
	afterIs(t, "if n { } else { x = k; }", "k: k, l: l, n: -, x: k, y: -, a: -, s: s, T: -")
	afterIs(t, "if n { x = k; } else { x = l; }", "k: k, l: l, n: -, x: k l, y: -, a: -, s: s, T: -")
	afterIs(t, "if n { x = k; } else { y = l; }", "k: k, l: l, n: -, x: k, y: l, a: -, s: s, T: -")
	afterIs(t, "if n { }", "k: k, l: l, n: -, x: -, y: -, a: -, s: s, T: -")
	afterIs(t, "x = k; if n { } else { }", "k: k, l: l, n: -, x: k, y: -, a: -, s: s, T: -")
	afterIs(t, "x = k; if n { x = l; }", "k: k, l: l, n: -, x: k l, y: -, a: -, s: s, T: -")
	afterIs(t, "x = k; if n { x = 1; }", "k: k, l: l, n: -, x: k, y: -, a: -, s: s, T: -")
	afterIs(t, "x = k; if n { x = 1; } else { x = 2; }", "k: k, l: l, n: -, x: -, y: -, a: -, s: s, T: -")
	afterIs(t, "x = k; if n { release x; } else { x = l; }", "k: k, l: l, n: -, x: l, y: -, a: -, s: s, T: -")
	afterIs(t, "x = k; if n { release x; }", "k: k, l: l, n: -, x: k, y: -, a: -, s: s, T: -")
	afterIs(t, "x = k; if n { x = 0; } else { y = x; } ", "k: k, l: l, n: -, x: k, y: k, a: -, s: s, T: -") // Else begins with what is ahead of the if
	afterIs(t, "if n { x = k; } else { y = x; } ", "k: k, l: l, n: -, x: k, y: -, a: -, s: s, T: -")
	afterIs(t, "if n { a[0] = k; } else { a[1] = l; }", "k: k, l: l, n: -, x: -, y: -, a: k l, s: s, T: -")
	// one in another
	afterIs(t, "if n { if n { x = k; } else { x = l; } y = x; } else { x = 1; }", "k: k, l: l, n: -, x: k l, y: k l, a: -, s: s, T: -")
	afterIs(t, "if n { x = 1; } else { if x { y = k; } else { release k; } x = k; }", "k: k, l: l, n: -, x: k, y: k, a: -, s: s, T: -")
	afterIs(t, "if n { if n { k = 0; } else { release k; } } else { if n { k = 1; } else { k = l; } }", "k: l, l: l, n: -, x: -, y: -, a: -, s: s, T: -")
	// what E hangs on
	afterIs(t, "if k { x = 1; } else { x = l; }", "k: k, l: l, n: -, x: l, y: -, a: -, s: s, T: -")
	afterIs(t, "if k { a[0] = 1; release x; } else { n = 2; y = s[n]; }", "k: k, l: l, n: -, x: -, y: s, a: -, s: s, T: -")
	highIs(t, stmtHead+"begin if k { x = 1; } if x { y = 1; } end", "k")
	highIs(t, stmtHead+"begin if k { if l { } } else { if n { } if k + l { } } end", "k; l; k + l")
	// E is gone through ahead of what stands in it
	highIs(t, stmtHead+"begin if x { x = k; } end", "")
	highIs(t, stmtHead+"begin x = k; if x { release x; } else { release x; } if x { } end", "x")
}
