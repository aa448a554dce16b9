package wf

import (
	"fmt"
	"slices"
	"strings"
	"testing"

	"cadence/api"
)

// tower: an expression so deep, by one kind and one of its parts.
func tower(deep, kind, part int) api.Expr {
	e := num(1)
	for range deep - 1 {
		e = around(kind, part, e)
	}
	return e
}

// towers calls for each kind and each of its parts.
func towers(each func(kind, part int)) {
	for kind := api.ELoad; kind <= api.ELast; kind++ {
		for part := range kidsOf(kind) {
			each(kind, part)
		}
	}
}

// TestDeepExprs: clause 10: an expression is 64 deep at the most, however deep the statement is that it stands in.
func TestDeepExprs(t *testing.T) {
	towers(func(kind, part int) {
		what := fmt.Sprint("kind ", kind, ", part ", part)
		right(t, what, base(set("x", tower(64, kind, part))))
		for _, deep := range []int{65, 66, 130, 2000} {
			faultIs(t, what, base(set("x", tower(deep, kind, part))), at(10, 4))
		}
		for _, h := range exprHosts(tower(62, kind, part)) {
			right(t, what+" "+h.what, h.p)
		}
		for _, h := range exprHosts(tower(65, kind, part)) {
			outer := h.place
			switch h.what { // the one that it is a part of is deeper, and stands ahead of it
			case "load", "first part":
				outer = h.place - 1
			case "second part":
				outer = h.place - 3
			case "third part":
				outer = h.place - 4
			}
			faultIs(t, what+" "+h.what, h.p, at(10, outer))
		}
	})
	faultIs(t, "the deepest part counts", base(set("x", of(api.ESel, num(1), tower(64, api.ENeg, 0), num(1)))), at(10, 4))
	right(t, "just not", base(set("x", of(api.ESel, tower(63, api.ENeg, 0), tower(63, api.EAdd, 1), tower(63, api.ECom, 0)))))
	faultIs(t, "the second of two statements", base(set("x", tower(64, api.ENeg, 0)), store("a", num(0), tower(65, api.ENeg, 0))), at(10, 3+1+64+2))
	faultIs(t, "the first of two", base(store("a", tower(65, api.ENeg, 0), tower(65, api.ENeg, 0)), set("x", tower(65, api.ENeg, 0))), at(10, 4))
}

// nestings: ways to put a statement into a block.
func nestings() []func(i int, s api.Stmt) api.Stmt {
	return []func(i int, s api.Stmt) api.Stmt{
		func(_ int, s api.Stmt) api.Stmt { return branch(num(1), list(s), nil) },
		func(_ int, s api.Stmt) api.Stmt { return branch(num(1), nil, list(s)) },
		func(i int, s api.Stmt) api.Stmt { return repeat(fmt.Sprint("i", i), 0, 1, s) },
	}
}

// nested: a statement that is so deep, by one of these ways, or (3) by all of them in turn.
func nested(deep int, way int, s api.Stmt) api.Stmt {
	for i := range deep - 1 {
		if way == 3 {
			s = nestings()[i%3](i, s)
		} else {
			s = nestings()[way](i, s)
		}
	}
	return s
}

// inside: the statement that stands in another one.
func inside(s api.Stmt) api.Stmt {
	if len(s.Then) > 0 {
		return s.Then[0]
	}
	return s.Else[0]
}

// within: how many places behind a statement the one stands that is so deep, if each has just one within it.
func within(s api.Stmt, deep int) int {
	behind := 0
	for range deep - 1 {
		if s.Kind == api.SIf {
			behind++
		}
		behind++
		s = inside(s)
	}
	return behind
}

// TestDeepStmts: clause 10: a statement is 64 deep at the most.
func TestDeepStmts(t *testing.T) {
	for way := range 4 {
		for _, s := range []api.Stmt{release("x"), set("x", tower(64, api.ENeg, 0)), branch(num(1), nil, nil), repeat("k", 0, 1), store("a", num(0), num(0))} {
			right(t, "64 deep", base(release("x"), nested(64, way, s), release("x")))
			for _, n := range []int{65, 66, 100} {
				deeper := nested(n, way, s)
				faultIs(t, fmt.Sprint(n, " deep by ", way), base(release("x"), deeper, deeper), at(10, 4+within(deeper, 65)))
			}
		}
	}
	deep := tower(65, api.ENeg, 0)
	faultIs(t, "an expression ahead of a block", base(nested(64, 0, branch(deep, list(release("x")), nil))), at(10, 3+2*63+1))
	faultIs(t, "a statement ahead of its expression", base(nested(64, 0, branch(num(1), list(set("x", deep)), nil))), at(10, 3+2*63+2))
	faultIs(t, "an expression ahead of a statement", base(set("x", deep), nested(65, 0, release("x"))), at(10, 4))
	faultIs(t, "a statement ahead of an expression", base(nested(65, 0, release("x")), set("x", deep)), at(10, 3+2*64))
	faultIs(t, "in loops", base(nested(65, 2, release("x"))), at(10, 3+64))
}

const veryDeep = 60000

// TestVeryDeepExprs: far deeper than any program: each call ends, and tells the truth (P1).
func TestVeryDeepExprs(t *testing.T) {
	towers(func(kind, part int) {
		what := fmt.Sprint("kind ", kind, ", part ", part)
		p := base(release("x"), set("x", tower(veryDeep, kind, part)))
		faultIs(t, what, p, at(10, 5))
		count := 3 + 2 + 1 + (veryDeep-1)*kidsOf(kind)
		is(t, what, thingsOf(t, p), count)
		is(t, what, namesAt(t, p, count-1), "T a x")
		noNames(t, p, count)
	})
	for _, bad := range []api.Expr{name("if"), {}, {Kind: 27}, {Kind: api.EAdd}} {
		e := bad
		for range veryDeep {
			e = around(api.ESel, 2, e)
		}
		faultIs(t, "not of the form", base(set("x", e)), at(1, -1))
	}
}

// TestVeryDeepStmts: likewise of blocks, with a name for each loop (P1).
func TestVeryDeepStmts(t *testing.T) {
	s := release("x")
	names := []string{"T", "a", "x"}
	for i := range veryDeep {
		switch i % 3 {
		case 0:
			s = repeat(fmt.Sprint("i", i), 0, 1, s)
			names = append(names, fmt.Sprint("i", i))
		case 1:
			s = branch(num(1), list(s), nil)
		case 2:
			s = branch(num(1), nil, list(s))
		}
	}
	p := base(s)
	count := 3 + veryDeep + 2*veryDeep/3 + 1
	is(t, "things", thingsOf(t, p), count)
	faultIs(t, "blocks", p, at(10, 3+within(s, 65)))
	slices.Sort(names)
	is(t, "names", namesAt(t, p, count-1), strings.Join(names, " "))
	is(t, "names of the outermost", namesAt(t, p, 3), "T a x")
	noNames(t, p, count)
	for _, bad := range []api.Stmt{release("if"), {}, {Kind: 6}, set("x", name("1"))} {
		s := bad
		for i := range veryDeep {
			s = repeat(fmt.Sprint("i", i), 0, 1, s)
		}
		faultIs(t, "not of the form", base(s), at(1, -1))
	}
}

// TestLoopsOfOneName: very many loops within one another with one name are known as one (F16.3).
func TestLoopsOfOneName(t *testing.T) {
	s := release("x")
	for range veryDeep {
		s = repeat("i", 0, 1, s)
	}
	p := base(s)
	is(t, "names", namesAt(t, p, 3+veryDeep), "T a i x")
	is(t, "names of the second", namesAt(t, p, 4), "T a i x")
	is(t, "names of the first", namesAt(t, p, 3), "T a x")
}
