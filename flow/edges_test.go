package flow

import (
	"fmt"
	"slices"
	"strings"
	"testing"

	"cadence/api"
)

// manySingles: so many declarations of a kind.
func manySingles(n, kind int) api.Program {
	p := api.Program{Name: "p", Width: 8, Line: 1}
	for i := range n {
		p.Decls = append(p.Decls, api.Decl{Kind: kind, Name: fmt.Sprint("v", i)})
	}
	return p
}

func name(i int) api.Expr { return api.Expr{Kind: api.EName, Name: fmt.Sprint("v", i)} }

func sum(a, b api.Expr) api.Expr { return api.Expr{Kind: api.EAdd, Kids: []api.Expr{a, b}} }

func set(i int, e api.Expr) api.Stmt {
	return api.Stmt{Kind: api.SSet, Name: fmt.Sprint("v", i), E: e}
}

func branch(e api.Expr) api.Stmt { return api.Stmt{Kind: api.SIf, E: e} }

func upTo(n int) []int {
	list := []int{}
	for i := range n {
		list = append(list, i)
	}
	return list
}

// TestManySecrets: with as many declarations as there may be, all of them secret.
func TestManySecrets(t *testing.T) {
	for _, n := range []int{1, 2, 63, 64, 65, 127, 128, 129, 191, 192, 193, 255, 256} {
		p := manySingles(n, api.DSecret)
		for i, list := range endsOf(t, p) {
			is(t, "at first", list, []int{i})
		}
		for i := 1; i < n; i++ { // v0 gathers all, and each one is seen
			p.Body = append(p.Body, set(0, sum(name(0), name(i))), branch(name(i)))
		}
		p.Body = append(p.Body, branch(name(0)))
		is(t, "gathered", endsOf(t, p)[0], upTo(n))
		last := thingsOf(t, p) - 1
		is(t, "the last if", sourcesAt(t, p, last), upTo(n))
		is(t, "high", len(highOf(t, p)), n)
		for i := 1; i < n; i++ {
			is(t, "a sum on the way", sourcesAt(t, p, n+6*(i-1)+1), upTo(i+1))
			is(t, "an if on the way", sourcesAt(t, p, n+6*(i-1)+5), []int{i})
		}
	}
}

// TestOneSecret: just one of as many as there may be, at each number.
func TestOneSecret(t *testing.T) {
	for secret := range 256 {
		p := manySingles(256, []int{api.DVar, api.DOut, api.DPublic}[secret%3])
		p.Decls[secret].Kind = api.DSecret
		to, other := (secret+101)%256, (secret+200)%256
		p.Body = []api.Stmt{set(to, sum(name(other), name(secret))), branch(name(other)), branch(name(to))}
		for i, list := range endsOf(t, p) {
			want := []int{}
			if i == secret || i == to {
				want = []int{secret}
			}
			is(t, fmt.Sprint("secret ", secret, ", at ", i), list, want)
		}
		is(t, "high", highOf(t, p), []int{256 + 7})
		is(t, "the sum", sourcesAt(t, p, 257), []int{secret})
		is(t, "its first part", sourcesAt(t, p, 258), []int{})
		is(t, "its second part", sourcesAt(t, p, 259), []int{secret})
	}
}

// TestNoSecret: nothing hangs on anything (P1803).
func TestNoSecret(t *testing.T) {
	for _, kind := range []int{api.DPublic, api.DVar, api.DOut} {
		p := manySingles(256, kind)
		for i := range 255 {
			p.Body = append(p.Body, set(i, sum(name(i), name(i+1))), branch(name(i)))
		}
		is(t, "high", highOf(t, p), []int{})
		for _, list := range endsOf(t, p) {
			is(t, "its end", list, []int{})
		}
		noSources(t, p, 255)
		noSources(t, p, 256)
		is(t, "the first expression", sourcesAt(t, p, 257), []int{})
	}
}

// TestArraysAndTables: Ends has each declaration, tables and outputs too, in order (F18.2).
func TestArraysAndTables(t *testing.T) {
	p := parsed(t, "const T[2] = 1, 2; secret k; out x; secret s[4]; const U[1] = 7; out y[4]; var a[2]; public n[2]; var v; out w; begin y[0] = s[1]; a[0] = T[k]; w = U[s[0]] + a[1]; n[1] = x; end")
	is(t, "ends", endsTold(t, p), "T: -, k: k, x: -, s: s, U: -, y: s, a: k, n: -, v: -, w: k s")
	ends, _ := Ends(p)
	is(t, "as numbers", ends, [][]int{{}, {1}, {}, {3}, {}, {3}, {1}, {}, {}, {1, 3}})
}

// TestGreatest: programs of the greatest size, with ifs and loops alone, and with loops that take all their rounds.
func TestGreatest(t *testing.T) {
	p := manySingles(256, api.DVar)
	p.Decls[0].Kind = api.DSecret
	p.Width = 32
	for i := range 16384 {
		inner := branch(name(i % 256))
		inner.Then, inner.Else = []api.Stmt{set((i+1)%256, name(i%256))}, nil
		p.Body = append(p.Body, inner)
	}
	is(t, "ifs", endsOf(t, p)[255], []int{0})
	high := highOf(t, p)
	if len(high) != 16384 || !slices.Contains(high, 257) {
		t.Fatal(len(high))
	}
	p.Body = nil
	for range 21845 {
		p.Body = append(p.Body, api.Stmt{Kind: api.SFor, Name: "i", Hi: 2, Lo: 0})
	}
	is(t, "loops", endsOf(t, p)[0], []int{0})
	// each round of the outer loop brings something new to the inner one, which then takes all its rounds
	text := "width 16; secret k; var a; var b; var c; var d; var e; var f; out x; begin for g 0 9 { for h 0 9 { for i 0 9 { for j 0 2 { if x { } x = f; f = e; } e = d; d = c; } c = b; } b = a; a = k; } end"
	is(t, "loops in loops", highTold(t, parsed(t, text)), "x")
	endIs(t, text, "x", "k")
	// and in all of these rounds stands a loop that is done no time, with a great deal in it
	idle := "for o 7 7 { " + strings.Repeat("if k { } ", 20000) + "} "
	text = strings.Replace(text, "if x", idle+"if x", 1)
	p = parsed(t, text)
	is(t, "idle", highOf(t, p), []int{8 + 4 + 1 + 40000 + 1})
}

// TestDeepLoops: as many loops within one another as there may be.
func TestDeepLoops(t *testing.T) {
	body := []api.Stmt{branch(name(1)), set(1, name(2))}
	for i := range 62 {
		rounds := uint64(1)
		if i%10 == 0 {
			rounds = 2
		}
		body = []api.Stmt{{Kind: api.SFor, Name: fmt.Sprint("i", i), Lo: 5, Hi: 5 + rounds, Then: body}}
	}
	p := manySingles(3, api.DVar)
	p.Decls[0].Kind = api.DSecret
	p.Body = append(body, set(2, name(0)))
	is(t, "typed", highOf(t, p), []int{})
	p.Body = []api.Stmt{{Kind: api.SFor, Name: "j", Lo: 0, Hi: 2, Then: p.Body}}
	is(t, "high", highOf(t, p), []int{3 + 1 + 62 + 1})
	is(t, "ends", endsTold(t, p), "v0: v0, v1: v0, v2: v0")
}
