package flow

import (
	"fmt"
	"testing"

	"cadence/api"
)

// TestLines: an index is seen where the array's Size is above Line, for each size and each line (Words of chapter 18).
func TestLines(t *testing.T) {
	for size := 1; size <= 256; size *= 2 {
		values := "0"
		for range size - 1 {
			values += ", 0"
		}
		for line := 1; line <= 256; line *= 2 {
			head := fmt.Sprintf("width 8; line %d; secret k; public n; out x; var a[%d]; secret s[%d]; const T[%d] = %s; ", line, size, size, size, values)
			high := ""
			if size > line {
				high = "k"
			}
			for _, r := range []struct{ body, name, end string }{
				{"a[k] = n;", "a", "k"}, {"s[k] = n;", "s", "k s"}, {"x = a[k];", "x", "k"}, {"x = s[k];", "x", "k s"}, {"x = T[k];", "x", "k"},
			} {
				text := head + "begin " + r.body + " end"
				highIs(t, text, high)
				endIs(t, text, r.name, r.end)
			}
			for _, body := range []string{"a[n] = k;", "s[n] = k;", "x = a[n];", "x = s[n];", "x = T[n] + k;", "a[0] = k; x = a[1];"} {
				highIs(t, head+"begin "+body+" end", "")
			}
		}
	}
}

const seenHead = "width 8; line 2; secret k; secret l; public n; out x; var a[4]; var b[2]; const T[4] = 1, 2, 3, 4; const U[2] = 1, 2; "

// TestSeen: which expressions are seen, by hand: those in the text that are high, in their order.
func TestSeen(t *testing.T) {
	for _, r := range []struct{ body, high string }{
		// ifs
		{"if k { }", "k"}, {"if k + 1 { }", "k + 1"}, {"if k == l { }", "k == l"}, {"if n { x = k; }", ""}, {"if T[n] { }", ""}, {"if U[k] { }", "U[k]"}, {"if sel(n, 1, k) { }", "sel(n, 1, k)"},
		// stores and loads
		{"a[k] = 1;", "k"}, {"a[k & 1] = 1;", "k & 1"}, {"b[k] = 1;", ""}, {"a[n] = k;", ""}, {"a[k] = l;", "k"}, {"a[n] = a[k];", "k"},
		{"x = T[k];", "k"}, {"x = T[k + n];", "k + n"}, {"x = U[k];", ""}, {"x = a[k];", "k"}, {"x = b[k];", ""}, {"x = T[n] + k;", ""},
		{"b[T[k]] = 1;", "k"}, {"a[U[k]] = 1;", "U[k]"}, {"a[T[k]] = T[l];", "T[k]; k; l"},
		// a load within a load
		{"x = T[T[k]];", "T[k]; k"}, {"x = T[U[k]];", "U[k]"}, {"x = U[T[k]];", "k"}, {"x = U[U[k]];", ""}, {"x = T[T[T[n]]];", ""}, {"x = T[U[T[k]]];", "U[T[k]]; k"}, {"x = T[1 + T[k + 1]];", "1 + T[k + 1]; k + 1"},
		// divisions
		{"x = 1 / k;", "k"}, {"x = k / 1;", "k"}, {"x = k / l;", "k; l"}, {"x = n / n;", ""}, {"x = 1 % k;", "k"}, {"x = k % 1;", "k"}, {"x = k % (l + 1);", "k; l + 1"}, {"x = n % 3;", ""},
		{"x = 1 / (2 / k);", "2 / k; k"}, {"x = (k % 3) / n;", "k % 3; k"}, {"x = T[n / k];", "n / k; k"}, {"x = U[n / k];", "k"}, {"if n / k { }", "n / k; k"}, {"a[n / l] = k % n;", "n / l; l; k"},
		// what is not seen
		{"x = k * l;", ""}, {"x = n << k;", ""}, {"x = n >>> k;", ""}, {"x = sel(k, l, n);", ""}, {"x = sar(n, k);", ""}, {"x = k < l;", ""}, {"x = ~k; x = -k;", ""}, {"release k;", ""}, {"x = k; release x;", ""}, {"for i 0 9 { x = x + k; }", ""},
		// the parts of what is seen are not, as such
		{"if (k + 1) * 2 { }", "(k + 1) * 2"}, {"x = 1 / ~(k + l);", "~(k + l)"}, {"x = T[sel(k, 1, 2) + l];", "sel(k, 1, 2) + l"},
		// several, in the order of their places
		{"x = n / k; if n { a[k] = 1 % l; } else { if k ^ l { } } x = T[l];", "k; k; l; k ^ l; l"},
	} {
		highIs(t, seenHead+"begin "+r.body+" end", r.high)
	}
}

// TestSeenParts: of all kinds just EDiv and ERem, and loads of arrays that are greater than a line, show their parts.
func TestSeenParts(t *testing.T) {
	for kind := api.EMul; kind <= api.ESlt; kind++ {
		for _, r := range [][3]string{{"k", "n", "k"}, {"n", "k", "k"}, {"k", "l", "k; l"}, {"n", "3", ""}} {
			want := ""
			if kind == api.EDiv || kind == api.ERem {
				want = r[2]
			}
			highIs(t, seenHead+"begin x = "+joinedText(kind, r[0], r[1])+"; end", want)
		}
	}
	for _, e := range []string{"~k", "-k", "sel(k, 1, 2)", "sel(1, k, 2)", "sel(1, 2, k)", "U[k]", "b[k]"} {
		highIs(t, seenHead+"begin x = "+e+"; end", "")
	}
}

// TestLeast: Check tells the least place of High's, and nothing where High is empty (F18.1).
func TestLeast(t *testing.T) {
	for _, r := range []struct {
		body  string
		place int
		code  api.Errno
	}{
		{"", 0, api.OK},
		{"x = k;", 0, api.OK},
		{"if k { } if l { }", 9, api.ErrHigh},
		{"x = 1; if k { }", 11, api.ErrHigh},
		{"x = 1 / k;", 11, api.ErrHigh},
		{"x = k / l;", 10, api.ErrHigh},
		{"x = T[T[k]];", 10, api.ErrHigh},
		// what is gone through last is least: x is public in the first round
		{"for i 0 2 { if x { } if k { } x = k; }", 10, api.ErrHigh},
		{"for i 0 3 { if b[0] { } if x { } b[0] = x; x = k; }", 10, api.ErrHigh},
		{"for i 0 2 { if b[0] { } if x { } b[0] = x; x = k; }", 13, api.ErrHigh},
		{"if n { } else { if k { } }", 11, api.ErrHigh},
	} {
		p := parsed(t, seenHead+"begin "+r.body+" end")
		highOf(t, p)
		place, e := Check(p)
		is(t, r.body, []any{place, e}, []any{r.place, r.code})
	}
}

// TestHighPlaces: the chapter's numbers, and that each place is told once, however often it is gone through.
func TestHighPlaces(t *testing.T) {
	is(t, "in many rounds", highOf(t, parsed(t, "secret k; out x; begin for i 0 9 { for j 0 9 { if k { } x = k / k; } } end")), []int{5, 8, 9})
	is(t, "one behind the other", highOf(t, parsed(t, "secret k; out x; begin if k { } if k { } if x { } if k { } end")), []int{3, 5, 9})
	is(t, "a program of statements", highOf(t, parsed(t, "secret k; begin if k { if k { } else { } } else { if k { } } end")), []int{2, 4, 6})
}
