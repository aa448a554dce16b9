package need

import (
	"fmt"
	"math/big"
	"testing"

	"cadence/api"
	"cadence/flat"
)

// TestManyPrograms: Of, and Code of what programs become, against the plain reading (P2001).
func TestManyPrograms(t *testing.T) {
	k := picker(2001)
	several, long := 0, 0
	for range 2000 {
		p := rightProgram(t, &k)
		f := made(t, p)
		want := plainNeed(f)
		n, e := Of(p)
		is(t, "Of", e, api.OK)
		needIs(t, shown(f), n, want)
		needIs(t, shown(f), codeNeed(t, f), want)
		if n.Paths != "1" {
			several++
		}
		if len(n.Paths) > 20 {
			long++
		}
	}
	if several < 500 || long < 50 {
		t.Fatal("too few: ", several, long)
	}
}

// TestManyPieces: Code of flat code that no program becomes, and of what Fold and Drop make of it, against the plain reading (P2001).
func TestManyPieces(t *testing.T) {
	k := picker(2002)
	several, none := 0, 0
	for range 4000 {
		f := anyFlat(t, &k)
		want := plainNeed(f)
		needIs(t, shown(f), codeNeed(t, f), want)
		folded, _ := flat.Fold(f)
		needIs(t, "Fold of "+shown(f), codeNeed(t, folded), plainNeed(folded))
		dropped, _ := flat.Drop(f)
		needIs(t, "Drop of "+shown(f), codeNeed(t, dropped), plainNeed(dropped))
		if want.Paths != "1" {
			several++
		}
		if want.Queries == "0" {
			none++
		}
	}
	if several < 1000 || none < 200 {
		t.Fatal("too few: ", several, none)
	}
}

// TestManyWays: Paths, Terms, Queries and Room are what comes of going each way by itself; Clauses are not below that (P2001).
func TestManyWays(t *testing.T) {
	k := picker(2003)
	checked, more := 0, 0
	for range 6000 {
		f := anyFlat(t, &k)
		n := codeNeed(t, f)
		if natural(t, n.Paths).Cmp(big.NewInt(3000)) > 0 {
			continue
		}
		p := newReader(f)
		forks := 0
		p.walk(f.Code, 0, func(int) { forks++ })
		is(t, shown(f), []string{n.Paths, n.Terms, n.Queries, n.Room}, []any{forks, p.t, p.q, p.room})
		switch natural(t, n.Clauses).Cmp(p.c) {
		case -1:
			t.Fatalf("%s clauses, and the ways have %s, of %s", n.Clauses, p.c, shown(f))
		case 1:
			more++
		}
		if forks > 3 {
			checked++
		}
	}
	if checked < 500 || more < 100 {
		t.Fatal("too few: ", checked, more)
	}
}

// TestAlikeParts: where both parts of each if have the same gates, the clauses are just those of all ways (P2001).
func TestAlikeParts(t *testing.T) {
	k := picker(2004)
	for range 300 {
		f := anyFlat(t, &k)
		f.Code = alike(f.Code)
		n := codeNeed(t, f)
		if len(n.Paths) > 4 {
			continue
		}
		p := newReader(f)
		p.walk(f.Code, 0, func(int) {})
		is(t, shown(f), n.Clauses, p.c)
	}
}

// alike: code whose ifs have their Then as their Else, too.
func alike(list []api.Ins) []api.Ins {
	var out []api.Ins
	for _, x := range list {
		x.Then = alike(x.Then)
		if x.Op == api.FIf {
			x.Else = alike(x.Then)
		}
		out = append(out, x)
	}
	return out
}

// TestLaws: laws that follow of the chapter: parts may change places, and with one instruction more no number is less (P2001).
func TestLaws(t *testing.T) {
	k := picker(2005)
	for range 1000 {
		f := anyFlat(t, &k)
		n := codeNeed(t, f)
		g := f
		g.Code = swapped(f.Code)
		needIs(t, "Then and Else changed: "+shown(f), codeNeed(t, g), n)
		g.Code = append(append([]api.Ins(nil), f.Code...), ins(pickOf(&k, append(quietOps(), api.EDiv, api.FIf)...)))
		notBelow(t, "one more behind: "+shown(f), codeNeed(t, g), n)
		g.Code = append([]api.Ins{ins(pickOf(&k, append(quietOps(), api.EDiv, api.FIf)...))}, f.Code...)
		notBelow(t, "one more ahead: "+shown(f), codeNeed(t, g), n)
		g.Code = []api.Ins{branch(f.Code, f.Code)}
		is(t, "an if around: "+shown(f), codeNeed(t, g).Paths, times(natural(t, n.Paths), 2))
	}
}

// swapped: code whose ifs have their parts changed.
func swapped(list []api.Ins) []api.Ins {
	var out []api.Ins
	for _, x := range list {
		x.Then, x.Else = swapped(x.Else), swapped(x.Then)
		out = append(out, x)
	}
	return out
}

// notBelow: no number of a need is below that of another.
func notBelow(t testing.TB, what string, a, b api.Need) {
	t.Helper()
	for i, pair := range [][2]string{{a.Paths, b.Paths}, {a.Terms, b.Terms}, {a.Queries, b.Queries}, {a.Clauses, b.Clauses}, {a.Decisions, b.Decisions}, {a.Room, b.Room}} {
		if natural(t, pair[0]).Cmp(natural(t, pair[1])) < 0 {
			t.Fatalf("%s: number %d: %s below %s", what, i, pair[0], pair[1])
		}
	}
}

// TestTold: all numbers are told without zeros ahead, signs or anything else (P2001).
func TestTold(t *testing.T) {
	k := picker(2006)
	for range 500 {
		n := codeNeed(t, anyFlat(t, &k))
		for _, text := range []string{n.Paths, n.Terms, n.Queries, n.Clauses, n.Decisions, n.Room} {
			if natural(t, text).Sign() < 0 {
				t.Fatal(fmt.Sprint("below 0: ", text))
			}
		}
	}
}
