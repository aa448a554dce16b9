package need

import (
	"fmt"
	"math/big"
	"testing"

	"cadence/api"
)

// decisionsOf: those of one query (a division) in a program with such declarations.
func decisionsOf(t testing.TB, width int, decls string) string {
	t.Helper()
	n := textNeed(t, fmt.Sprintf("width %d; %s out z; begin z = 1 / 1; end", width, decls))
	is(t, decls, n.Queries, 1)
	return n.Decisions
}

// TestInputs: the bits of the inputs: public words once, secret ones twice, arrays by their sizes, nothing else (P2001).
func TestInputs(t *testing.T) {
	for _, r := range []struct {
		decls string
		words int
	}{
		{"", 0},
		{"out x; var v; var a[4]; out b[8]; const T[2] = 1, 2;", 0},
		{"public n;", 1},
		{"public n; public m; public o;", 3},
		{"public n[1];", 1},
		{"public n[16];", 16},
		{"secret k;", 2},
		{"secret k; secret l;", 4},
		{"secret k[1];", 2},
		{"secret k[8];", 16},
		{"secret k; public n;", 3},
		{"public n; var v; secret k; out x;", 3},
		{"public n[4]; var a[4]; secret k[2]; const T[2] = 1, 2; secret l; public m;", 4 + 4 + 2 + 1},
		{"public n[256];", 256},
		{"secret k[256];", 512},
	} {
		for _, width := range widths() {
			want := new(big.Int).Sub(power(width*r.words), big.NewInt(1))
			is(t, fmt.Sprint(r.decls, " at ", width), decisionsOf(t, width, r.decls), want)
		}
	}
}

// TestDecisions: numbers written by hand: where there is no query, and where 2 to the power I is just below, at and beyond a word of 64 bits (P2001).
func TestDecisions(t *testing.T) {
	is(t, "no input", decisionsOf(t, 64, ""), "0")
	is(t, "4 bits", decisionsOf(t, 4, "public n;"), "15")
	is(t, "8 bits", decisionsOf(t, 4, "secret k;"), "255")
	is(t, "12 bits", decisionsOf(t, 4, "secret k; public n;"), "4095")
	is(t, "60 bits", decisionsOf(t, 4, "public a[8]; public b[4]; public c[2]; public d;"), "1152921504606846975")
	is(t, "64 bits", decisionsOf(t, 64, "public n;"), "18446744073709551615")
	is(t, "64 bits", decisionsOf(t, 32, "secret k;"), "18446744073709551615")
	is(t, "72 bits", decisionsOf(t, 8, "public a[8]; public b;"), "4722366482869645213695")
	is(t, "128 bits", decisionsOf(t, 64, "secret k;"), "340282366920938463463374607431768211455")
	for _, decls := range []string{"", "public n;", "secret k[256];", "public n[256]; secret k[256];"} {
		n := textNeed(t, "width 64; "+decls+" out z; begin z = 1; z = z * z + z; release z; end")
		is(t, "no query, "+decls, []string{n.Queries, n.Decisions, n.Clauses, n.Room}, []int{0, 0, 0, 0})
	}
	n := textNeed(t, "width 64; public n; out z; begin z = 1 / 1; z = 1 / 1; z = 1 / 1; end")
	is(t, "three queries", n.Decisions, "55340232221128654845")
}

// TestMostInputs: as many input words as there may be (P2001).
func TestMostInputs(t *testing.T) {
	for _, kind := range []int{api.DPublic, api.DSecret} {
		f := api.Flat{Width: 64, Line: 1, Code: []api.Ins{{Op: api.FIf, A: number(1)}}}
		for i := range 16 {
			f.Decls = append(f.Decls, api.Decl{Kind: kind, Name: fmt.Sprint("d", i), Size: 256})
		}
		is(t, fmt.Sprint("kind ", kind), codeNeed(t, f).Decisions, new(big.Int).Sub(power(kind*64*4096), big.NewInt(1)))
	}
}
