package check

import (
	"fmt"
	"testing"

	"cadence/api"
)

// TestOrder: Then is gone ahead of Else, to its end, and of the ways that wait the one that was laid last is taken: by the place of each if that is asked about on the way.
func TestOrder(t *testing.T) {
	const head = "width 4; secret k; public n; public m; const T[4] = 1, 2, 3, 4; out x; begin "
	const q = "x = T[(k * k) & 2]; " // a query that is never Sat: no square has that bit
	for _, r := range []struct{ body, want string }{
		{"if n { " + q + "} else { " + q + q + "} " + q, "1 unsat 2, 2 unsat 2, 1 unsat 2, 2 unsat 2, 3 unsat 2"},
		{"if n { if m { " + q + q + "} else { x = 1; } } else { x = n / n; " + q + "}", "2 unsat 3, 3 unsat 3, 2 unsat 2"},
		{"if n { if m { x = 1; } else { " + q + "} } else { x = m / n; x = n / m; if m { x = m / m; " + q + "} " + q + "}", "2 unsat 3, 5 unsat 3, 6 unsat 3, 4 unsat 3"},
		{"if n { x = 1; } else { " + q + "} if m { x = 2; } else { x = m / n; } " + q, "2 unsat 3, 3 unsat 3, 1 unsat 2, 3 unsat 3, 4 unsat 3"},
	} {
		l, v := Queries(right(t, head+r.body+"end"), noBound())
		is(t, r.body, []any{kindWord(v.Kind), asked(l)}, []any{"Secure", r.want})
	}
}

// TestFirstLeak: of two leaks the one that comes first on the first way that has one is told, though another way has one ahead.
func TestFirstLeak(t *testing.T) {
	const head = "width 4; secret k; secret l; public n; const T[4] = 1, 2, 3, 4; out x; begin "
	for _, r := range []struct {
		body string
		at   int
		n    string // n, as far as the way is known
	}{
		{"if k { } if l { }", 0, ""},
		{"x = T[n]; x = n / n; if k { } if l { }", 2, ""},
		{"if n { x = T[k]; } else { x = T[l]; }", 1, "not 0"},
		{"if n { x = n / 3; x = T[k]; } else { x = T[l]; }", 2, "not 0"},
		{"if n { x = n; } else { x = T[l]; }", 1, "0"},
		{"if n { x = n; } else { x = 1 / n; x = T[l]; }", 2, "0"},
		{"if n { x = T[n]; x = T[n]; x = 1; } else { x = 2; } if x == 1 { x = T[k]; } else { x = T[l]; }", 4, "not 0"},
		{"if n < 8 { if n < 4 { x = T[n]; } else { x = T[k]; } } else { x = T[l]; }", 2, "4 to 7"},
		{"release k; release n; if k { } x = T[l];", 3, ""},
		{"release n; if n { release k; x = T[l]; } else { if k { } }", 3, "not 0"},
	} {
		v := comesTo(t, head+r.body+" end", noBound(), api.Leak)
		is(t, r.body, v.At, r.at)
		n := v.X[2]
		is(t, r.body, v.Y[2], n)
		is(t, r.body+fmt.Sprint(n), r.n == "" || r.n == "0" && n == 0 || r.n == "not 0" && n != 0 || r.n == "4 to 7" && n >= 4 && n < 8, true)
	}
}

// TestReleases: what was released is assumed to be alike; a release itself is no leak; what was not is one still, with inputs for which what was released is alike.
func TestReleases(t *testing.T) {
	const head = "width 4; secret k; public n; const T[4] = 1, 2, 3, 4; out x; begin "
	for _, body := range []string{
		"release k;", "x = k * k; release x;", "release k; release k; if k { }", "release k; x = T[k]; if k < 3 { x = n / k; }",
		"x = k & 3; release x; x = T[k];", "x = k + n; release x; if k { }", "x = k * 3; release x; if k { }", "x = k ^ 15; release x; x = 1 / k;",
		"if n { x = k; release x; if x { } } else { release k; x = T[k]; }",
	} {
		comesTo(t, head+body+" end", noBound(), api.Secure)
	}
	for body, at := range map[string]int{
		"x = k & 1; release x; x = T[k];": 1, "x = k & 2; release x; if k & 1 { }": 1, "if k { release k; }": 0, "x = T[k]; release k;": 0,
		"x = k * 2; release x; if k { }": 1, "if n { release k; } x = T[k];": 1, "if n { x = k; release x; } else { x = k & 1; release x; } if k { }": 2,
	} {
		v := comesTo(t, head+body+" end", noBound(), api.Leak)
		is(t, body, v.At, at)
	}
	v := comesTo(t, head+"x = k & 1; release x; x = T[k]; end", noBound(), api.Leak)
	is(t, "released alike", v.X[0]&1, v.Y[0]&1)
}

// TestWitness: each position has its variable's value; what the query does not hang on is 0, and the public words are alike.
func TestWitness(t *testing.T) {
	const head = "width 8; public n; secret a[4]; var v; public m[2]; const T[4] = 1, 2, 3, 4; out x; secret k; begin "
	at := func(words map[int]uint64) []uint64 { // the positions: n 0, a 1 to 4, m 5 and 6, k 7
		l := make([]uint64, 8)
		for i, x := range words {
			l[i] = x
		}
		return l
	}
	for _, r := range []struct {
		body string
		x, y []uint64
		at   int
	}{
		{"if k { }", at(nil), at(map[int]uint64{7: 128}), 0},
		{"if a[1] { }", at(nil), at(map[int]uint64{2: 128}), 1},
		{"x = T[a[2]];", at(nil), at(map[int]uint64{3: 2}), 1},
		{"if (a[0] ^ 255) == 0 { }", at(nil), at(map[int]uint64{1: 255}), 1},
		{"if n == 77 { if k { } }", at(map[int]uint64{0: 77}), at(map[int]uint64{0: 77, 7: 128}), 1},
		{"if n == 77 { if m[0] == 200 { if m[1] == 255 { if k { } } } }", at(map[int]uint64{0: 77, 5: 200, 6: 255}), at(map[int]uint64{0: 77, 5: 200, 6: 255, 7: 128}), 5},
		{"if m[1] == 9 { x = k; release x; release k; if a[2] { } }", at(map[int]uint64{6: 9}), at(map[int]uint64{3: 128, 6: 9}), 5},
		{"x = m[1] + 250; if x == 4 { if a[0] + a[1] == 3 { } }", nil, nil, 4},
	} {
		v := comesTo(t, head+r.body+" end", noBound(), api.Leak)
		is(t, r.body+": At", v.At, r.at)
		if r.x == nil {
			is(t, r.body, []uint64{v.X[6], v.Y[6], v.X[0], v.X[3], v.X[4], v.X[5], v.X[7], v.Y[3], v.Y[7]}, []uint64{10, 10, 0, 0, 0, 0, 0, 0, 0})
			is(t, r.body, v.X[1]+v.X[2] == 3, v.Y[1]+v.Y[2] != 3)
			continue
		}
		is(t, r.body, []any{v.X, v.Y}, []any{r.x, r.y})
	}
}

// TestManyPositions: places of two and more digits are told apart.
func TestManyPositions(t *testing.T) {
	const head = "width 16; public a[16]; secret b[256]; public c[4]; secret k; out x; begin "
	v := comesTo(t, head+"if a[11] == 0x1234 { if c[2] == 0x4321 { if b[101] == 0xffff { } } } end", noBound(), api.Leak)
	is(t, "lengths, At", []int{len(v.X), len(v.Y), v.At}, []int{277, 277, 5})
	for i := range v.X {
		want := map[int]uint64{11: 0x1234, 274: 0x4321}[i]
		other := want
		if i == 16+101 {
			other = 0xffff
		}
		if v.X[i] == 0xffff { // which of the two copies is free
			v.X[i], v.Y[i] = v.Y[i], v.X[i]
		}
		is(t, fmt.Sprint("at ", i), v.X[i], want)
		is(t, fmt.Sprint("at ", i), v.Y[i], other)
	}
}
