package lang

import (
	"math"
	"slices"
	"strings"
	"testing"

	"cadence/api"
)

// formIs: Form's answer, and that Print refuses what Form does.
func formIs(t *testing.T, what string, p api.Program, want bool) {
	t.Helper()
	if Form(p) != want {
		t.Fatalf("%s: not %v: %+v", what, want, p)
	}
	s, e := Print(p)
	if (e == api.OK) != want || (s != "") != want || !want && e != api.ErrArg {
		t.Fatalf("%s: %q %d", what, s, e)
	}
}

// nameRows: what is a name, and what is none.
func nameRows() map[string]bool {
	rows := map[string]bool{"a": true, "_": true, "Z9": true, "iff": true, "IF": true, strings.Repeat("a", 24): true,
		"": false, strings.Repeat("a", 25): false, "1": false, "1a": false, "a b": false, "a;": false, "é": false, "a\x00": false, "-": false, "a\n": false, " a": false, "\xff": false}
	for _, w := range reservedWords() {
		rows[w] = false
	}
	return rows
}

// TestFormProgram: name, width, line (P1502).
func TestFormProgram(t *testing.T) {
	for s, fine := range nameRows() {
		formIs(t, s, api.Program{Name: s, Width: 8, Line: 2}, fine)
		formIs(t, s, api.Program{Name: s}, fine)
	}
	for _, n := range []int{math.MinInt, -32, -1, 0, 1, 5, 64, 65, math.MaxInt} {
		formIs(t, "width", api.Program{Name: "p", Width: n}, n >= 0)
		formIs(t, "line", api.Program{Name: "p", Line: n}, n >= 0)
	}
	formIs(t, "nothing", api.Program{}, false)
	formIs(t, "empty lists", api.Program{Name: "p", Decls: []api.Decl{}, Body: []api.Stmt{}}, true)
}

// TestFormDecls: kinds, names, sizes, words (P1502).
func TestFormDecls(t *testing.T) {
	right := api.Decl{Kind: api.DVar, Name: "a"}
	at := func(d api.Decl, want bool) {
		t.Helper()
		formIs(t, "alone", api.Program{Name: "p", Decls: []api.Decl{d}}, want)
		formIs(t, "last", api.Program{Name: "p", Decls: []api.Decl{right, right, d}}, want)
		formIs(t, "first", api.Program{Name: "p", Decls: []api.Decl{d, right}}, want)
	}
	lists := [][]uint64{nil, {}, {0}, {1, 1<<64 - 1, 3}}
	for _, kind := range []int{math.MinInt, -1, 0, 1, 2, 3, 4, 5, 6, math.MaxInt} {
		for _, size := range []int{math.MinInt, -1, 0, 1, 3, 256, 257, math.MaxInt} {
			for _, values := range lists {
				fine := kind >= 1 && kind <= 5 && size >= 0
				if kind == api.DConst {
					fine = fine && size > 0 && len(values) > 0
				} else {
					fine = fine && len(values) == 0
				}
				at(api.Decl{Kind: kind, Name: "a", Size: size, Values: values}, fine)
			}
		}
	}
	for s, fine := range nameRows() {
		at(api.Decl{Kind: api.DSecret, Name: s}, fine)
		at(api.Decl{Kind: api.DConst, Name: s, Size: 2, Values: []uint64{1}}, fine)
	}
}

// places: a program with an expression at each place where one stands.
func places(e api.Expr) []api.Program {
	list := []api.Program{
		holding(set("x", e)), holding(store("x", e, num(1))), holding(store("x", num(1), e)), holding(branch(e, nil, nil)),
		holding(release("x"), loop("i", 0, 1, release("x"), set("x", e)), release("x")),
		holding(branch(num(1), nil, []api.Stmt{release("x"), branch(e, nil, nil)})),
		holding(set("x", load("t", e))), holding(set("x", of(api.ENeg, e))), holding(set("x", of(api.ESel, num(1), of(api.EAdd, e, num(1)), num(2)))), holding(set("x", of(api.ESlt, num(1), of(api.EAdd, num(1), e)))), holding(set("x", of(api.ESel, num(1), num(2), e))),
	}
	return list
}

// TestFormExprs: each kind with each number of parts, with a name and a number or without (P1502, P1504).
func TestFormExprs(t *testing.T) {
	kinds := []int{math.MinInt, -1, 0, 27, 28, 255, math.MaxInt}
	for k := 1; k <= 26; k++ {
		kinds = append(kinds, k)
	}
	for _, kind := range kinds {
		for kids := range 5 {
			for _, word := range []string{"", "a", "if", "1"} {
				for _, n := range []uint64{0, 1, 1<<64 - 1} {
					e := api.Expr{Kind: kind, Num: n, Name: word}
					for range kids {
						e.Kids = append(e.Kids, name("b"))
					}
					fine := kind >= 1 && kind <= 26 && kids == kidsOf(kind) && (n == 0 || kind == api.ENum)
					if kind == api.EName || kind == api.ELoad {
						fine = fine && word == "a"
					} else {
						fine = fine && word == ""
					}
					for _, p := range places(e) {
						formIs(t, "an expression", p, fine)
					}
					s, err := Expr(e)
					if (err == api.OK) != fine || (s != "") != fine || !fine && err != api.ErrArg {
						t.Fatalf("%+v: %q %d", e, s, err)
					}
				}
			}
		}
	}
	for s, fine := range nameRows() {
		for _, e := range []api.Expr{name(s), load(s, num(1)), of(api.EAdd, num(1), name(s))} {
			for _, p := range places(e) {
				formIs(t, s, p, fine)
			}
			_, err := Expr(e)
			is(t, s, err == api.OK, fine)
		}
	}
	s, err := Expr(api.Expr{})
	is(t, "nothing", []any{s, err}, []any{"", api.ErrArg})
	is(t, "empty lists", Form(holding(set("x", api.Expr{Kind: api.ENum, Kids: []api.Expr{}}))), true)
}

// filled: what is laid into a field of a statement, and which kinds have that field.
type filled struct {
	what string
	fill func(s *api.Stmt)
	has  []int
}

func fillings() []filled {
	body := []api.Stmt{release("x")}
	return []filled{
		{"name", func(s *api.Stmt) { s.Name = "y" }, []int{api.SSet, api.SStore, api.SFor, api.SRelease}},
		{"at", func(s *api.Stmt) { s.At = num(0) }, []int{api.SStore}},
		{"at, a kind", func(s *api.Stmt) { s.At = of(api.EAdd, num(1), num(2)) }, []int{api.SStore}},
		{"at, a number alone", func(s *api.Stmt) { s.At = api.Expr{Num: 1} }, nil},
		{"at, a name alone", func(s *api.Stmt) { s.At = api.Expr{Name: "a"} }, nil},
		{"at, parts alone", func(s *api.Stmt) { s.At = api.Expr{Kids: []api.Expr{num(1)}} }, nil},
		{"at, parts of nothing", func(s *api.Stmt) { s.At = api.Expr{Kids: []api.Expr{{}}} }, nil},
		{"e", func(s *api.Stmt) { s.E = num(0) }, []int{api.SSet, api.SStore, api.SIf}},
		{"e, a name", func(s *api.Stmt) { s.E = name("a") }, []int{api.SSet, api.SStore, api.SIf}},
		{"e, a number alone", func(s *api.Stmt) { s.E = api.Expr{Num: 1} }, nil},
		{"e, a name alone", func(s *api.Stmt) { s.E = api.Expr{Name: "a"} }, nil},
		{"e, parts alone", func(s *api.Stmt) { s.E = api.Expr{Kids: []api.Expr{num(1)}} }, nil},
		{"lo", func(s *api.Stmt) { s.Lo = 1 }, []int{api.SFor}},
		{"hi", func(s *api.Stmt) { s.Hi = 1 }, []int{api.SFor}},
		{"lo above hi", func(s *api.Stmt) { s.Lo, s.Hi = 1<<64-1, 1 }, []int{api.SFor}},
		{"then", func(s *api.Stmt) { s.Then = body }, []int{api.SIf, api.SFor}},
		{"else", func(s *api.Stmt) { s.Else = body }, []int{api.SIf}},
		{"then, of nothing", func(s *api.Stmt) { s.Then = []api.Stmt{{}} }, nil},
		{"else, of nothing", func(s *api.Stmt) { s.Else = []api.Stmt{{}} }, nil},
		{"empty lists", func(s *api.Stmt) { s.Then, s.Else = []api.Stmt{}, []api.Stmt{} }, []int{1, 2, 3, 4, 5}},
		{"nothing", func(s *api.Stmt) {}, []int{1, 2, 3, 4, 5}},
	}
}

func rightStmts() []api.Stmt {
	return []api.Stmt{set("x", num(1)), store("x", num(1), num(2)), branch(num(1), nil, nil), loop("i", 0, 0), release("x")}
}

// TestFormStmts: each kind has its fields, and no others (P1502).
func TestFormStmts(t *testing.T) {
	at := func(what string, s api.Stmt, fine bool) {
		t.Helper()
		for _, p := range []api.Program{
			holding(s), holding(release("x"), s), holding(s, release("x")),
			holding(branch(num(1), []api.Stmt{s}, nil)), holding(branch(num(1), nil, []api.Stmt{release("x"), s})), holding(branch(num(1), []api.Stmt{release("x")}, []api.Stmt{loop("i", 0, 1, release("x"), s)})),
		} {
			formIs(t, what, p, fine)
		}
	}
	for _, right := range rightStmts() {
		for _, f := range fillings() {
			s := right
			f.fill(&s)
			at(f.what, s, slices.Contains(f.has, s.Kind))
		}
		for s, fine := range nameRows() {
			named := right
			named.Name = s
			at(s, named, right.Kind != api.SIf && fine || right.Kind == api.SIf && s == "")
		}
		for _, kind := range []int{math.MinInt, -1, 0, 6, 7, math.MaxInt} {
			other := right
			other.Kind = kind
			at("another kind", other, false)
			at("a kind alone", api.Stmt{Kind: kind}, false)
		}
		at("without an index", api.Stmt{Kind: api.SStore, Name: "x", E: num(1)}, false)
		at("without a word", api.Stmt{Kind: api.SStore, Name: "x", At: num(1)}, false)
		at("without an expression", api.Stmt{Kind: api.SSet, Name: "x"}, false)
		at("without a condition", api.Stmt{Kind: api.SIf}, false)
	}
	at("of nothing", api.Stmt{}, false)
}

// TestFormOfParse: what Parse answers is of that form (P1502).
func TestFormOfParse(t *testing.T) {
	p := picker(3)
	for range 500 {
		made := p.anyProgram()
		is(t, "made", Form(made), true)
		is(t, "read", Form(parsed(t, p.spread(looseTokens(made, never)))), true)
	}
	is(t, "what is refused", Form(api.Program{}), false)
}
