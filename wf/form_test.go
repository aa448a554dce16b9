package wf

import (
	"math"
	"strings"
	"testing"

	"cadence/api"
)

// argEverywhere: each call answers ErrArg, and nothing beside it (clause 1).
func argEverywhere(t *testing.T, what string, p api.Program) {
	t.Helper()
	faultIs(t, what, p, fault{1, -1, api.ErrArg})
	is(t, what, Check(p), api.ErrArg)
	size, e := Size(p)
	is(t, what, []any{size, e}, []any{0, api.ErrArg})
	things, e := Things(p)
	is(t, what, []any{things, e}, []any{0, api.ErrArg})
	for _, place := range append(nowhere(), 0, 1, 3, 4) {
		noNames(t, p, place)
	}
}

// TestNoForm: programs, declarations, statements, expressions that are not of the form of lang.
func TestNoForm(t *testing.T) {
	argEverywhere(t, "nothing", api.Program{})
	for _, s := range []string{"", "1", "end", "sel", "a b", "é", strings.Repeat("a", 25)} {
		p := base()
		p.Name = s
		argEverywhere(t, "the name "+s, p)
		p = base()
		p.Decls[1].Name = s
		argEverywhere(t, "a declaration "+s, p)
		for _, x := range []api.Stmt{release(s), set(s, num(1)), store(s, num(1), num(1)), repeat(s, 0, 1), set("x", name(s)), set("x", load(s, num(1)))} {
			for _, h := range stmtHosts(x) {
				argEverywhere(t, h.what+" "+s, h.p)
			}
		}
	}
	for _, n := range []int{-1, math.MinInt} {
		p := base()
		p.Width = n
		argEverywhere(t, "a width below 0", p)
		p = base()
		p.Line = n
		argEverywhere(t, "a line below 0", p)
		p = base()
		p.Decls[0].Size = n
		argEverywhere(t, "a size below 0", p)
	}
	for _, d := range []api.Decl{
		{}, {Kind: 0, Name: "k"}, {Kind: 6, Name: "k"}, {Kind: -1, Name: "k"}, {Kind: math.MaxInt, Name: "k"},
		{Kind: api.DVar, Name: "k", Values: []uint64{1}}, {Kind: api.DSecret, Name: "k", Size: 2, Values: []uint64{1, 2}},
		table("k", 0, 1), table("k", 2), table("k", -2, 1, 2), table("k", 0),
	} {
		p := base()
		p.Decls = append(p.Decls, d)
		argEverywhere(t, "a declaration", p)
	}
}

// TestNoFormBody: statements and expressions that have what their kind has not, or have not what it has.
func TestNoFormBody(t *testing.T) {
	body := list(release("x"))
	for _, s := range []api.Stmt{
		{}, {Kind: 6}, {Kind: -1}, {Kind: math.MinInt}, {Kind: 6, Name: "x", E: num(1)},
		{Kind: api.SSet, Name: "x"}, {Kind: api.SSet, E: num(1)}, {Kind: api.SSet, Name: "x", E: num(1), At: num(1)}, {Kind: api.SSet, Name: "x", E: num(1), Lo: 1}, {Kind: api.SSet, Name: "x", E: num(1), Hi: 1}, {Kind: api.SSet, Name: "x", E: num(1), Then: body}, {Kind: api.SSet, Name: "x", E: num(1), Else: body},
		{Kind: api.SStore, Name: "a", E: num(1)}, {Kind: api.SStore, Name: "a", At: num(1)}, {Kind: api.SStore, At: num(1), E: num(1)}, {Kind: api.SStore, Name: "a", At: num(1), E: num(1), Then: body},
		{Kind: api.SIf}, {Kind: api.SIf, Name: "x", E: num(1)}, {Kind: api.SIf, E: num(1), At: num(1)}, {Kind: api.SIf, E: num(1), Hi: 1}, {Kind: api.SIf, E: num(1), Then: list(api.Stmt{})}, {Kind: api.SIf, E: num(1), Else: list(api.Stmt{})},
		{Kind: api.SFor, Hi: 1}, {Kind: api.SFor, Name: "k", E: num(1)}, {Kind: api.SFor, Name: "k", At: num(1)}, {Kind: api.SFor, Name: "k", Else: body}, {Kind: api.SFor, Name: "k", Then: list(api.Stmt{})},
		{Kind: api.SRelease}, {Kind: api.SRelease, Name: "x", E: num(1)}, {Kind: api.SRelease, Name: "x", At: num(1)}, {Kind: api.SRelease, Name: "x", Lo: 1}, {Kind: api.SRelease, Name: "x", Then: body},
		{Kind: api.SRelease, Name: "x", E: api.Expr{Num: 1}}, {Kind: api.SRelease, Name: "x", At: api.Expr{Name: "x"}}, {Kind: api.SRelease, Name: "x", E: api.Expr{Kids: []api.Expr{{}}}},
	} {
		for _, h := range stmtHosts(s) {
			argEverywhere(t, h.what, h.p)
		}
	}
	for _, e := range []api.Expr{
		{}, {Kind: 27}, {Kind: -1}, {Kind: math.MaxInt}, {Kind: math.MinInt}, {Num: 1}, {Name: "x"},
		{Kind: api.ENum, Name: "x"}, {Kind: api.EName, Name: "x", Num: 1}, {Kind: api.EName}, {Kind: api.ENum, Kids: []api.Expr{num(1)}}, {Kind: api.EName, Name: "x", Kids: []api.Expr{num(1)}},
		{Kind: api.ELoad, Name: "a"}, {Kind: api.ELoad, Kids: []api.Expr{num(1)}}, {Kind: api.ELoad, Name: "a", Kids: []api.Expr{num(1), num(1)}},
		{Kind: api.EAdd}, of(api.EAdd, num(1)), of(api.EAdd, num(1), num(1), num(1)), of(api.ENeg), of(api.ECom, num(1), num(1)), of(api.ESel, num(1), num(1)), of(api.ESel, num(1), num(1), num(1), num(1)), of(api.ENeg, api.Expr{}), of(api.EAdd, num(1), of(27)),
		{Kind: api.EAdd, Num: 1, Kids: []api.Expr{num(1), num(1)}}, {Kind: api.ESlt, Name: "x", Kids: []api.Expr{num(1), num(1)}},
	} {
		for _, h := range exprHosts(e) {
			argEverywhere(t, h.what, h.p)
		}
	}
}

// TestFormAlone: what is of the form has things and names, whatever else is wrong with it (F16.3).
func TestFormAlone(t *testing.T) {
	p := api.Program{Name: "p", Width: 5, Line: math.MaxInt, Decls: []api.Decl{single(api.DVar, "k"), array(api.DSecret, "k", math.MaxInt), table("K", 3, math.MaxUint64)},
		Body: list(repeat("k", 9, 2, set("no", load("no", num(math.MaxUint64)))), repeat("i", 0, math.MaxUint64, repeat("i", 5, 0, release("K"))))}
	faultIs(t, "all wrong", p, at(2, -1))
	is(t, "things", thingsOf(t, p), 10)
	for place, want := range []string{"", "k", "k", "K k", "K k", "K k", "K k", "K k", "K i k", "K i k"} {
		is(t, "names", namesAt(t, p, place), want)
	}
	for _, place := range append(nowhere(), 10, 11) {
		noNames(t, p, place)
	}
	empty := api.Program{Name: "p"}
	is(t, "no things", thingsOf(t, empty), 0)
	for _, place := range append(nowhere(), 0, 1) {
		noNames(t, empty, place)
	}
}
