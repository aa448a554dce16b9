package wf

import (
	"fmt"
	"math"
	"testing"

	"cadence/api"
)

// TestUnknown: clause 11: each name that is used must be known, wherever it stands.
func TestUnknown(t *testing.T) {
	for _, e := range []api.Expr{name("y"), load("y", num(0)), load("y", name("z")), name("X"), name("p"), name("xx"), load("t", num(0)), load("A", num(0)), name("k")} {
		for _, h := range exprHosts(e) {
			faultIs(t, h.what, h.p, at(11, h.place))
		}
	}
	for _, s := range []api.Stmt{set("y", num(0)), set("y", name("z")), store("y", num(0), num(0)), store("y", name("z"), name("z")), release("y"), release("p"), set("k", num(0))} {
		for _, h := range stmtHosts(s) {
			faultIs(t, h.what, h.p, at(11, h.place))
		}
	}
	for _, e := range []api.Expr{name("x"), load("a", num(0)), load("T", name("x")), of(api.ESel, name("x"), load("a", load("T", name("x"))), num(1))} {
		for _, h := range exprHosts(e) {
			right(t, h.what, h.p)
		}
	}
	for _, s := range []api.Stmt{set("x", name("x")), store("a", name("x"), name("x")), release("x"), repeat("k", 0, 1), repeat("y", 0, 2, set("x", name("y")))} {
		for _, h := range stmtHosts(s) {
			right(t, h.what, h.p)
		}
	}
}

// TestLoopNames: a loop's name is known in its Then, and nowhere else (clause 11).
func TestLoopNames(t *testing.T) {
	use := set("x", name("i"))
	faultIs(t, "ahead", base(use, repeat("i", 0, 1)), at(11, 4))
	faultIs(t, "behind", base(repeat("i", 0, 1, use), use), at(11, 7))
	faultIs(t, "in another one", base(repeat("i", 0, 1, use), repeat("j", 0, 1, use)), at(11, 8))
	faultIs(t, "in the one around", base(repeat("j", 0, 1, repeat("i", 0, 1, use), use)), at(11, 8))
	faultIs(t, "in the else of one around it", base(branch(num(1), list(repeat("i", 0, 1)), list(use))), at(11, 7))
	faultIs(t, "an index behind", base(repeat("i", 0, 1), store("a", name("i"), num(1))), at(11, 5))
	right(t, "within", base(repeat("i", 0, 1, use)))
	right(t, "within, at an index", base(repeat("i", 0, 1, store("a", name("i"), load("T", name("i"))))))
	right(t, "further within", base(repeat("i", 0, 1, repeat("j", 0, 1, branch(name("i"), list(use), list(use))))))
	right(t, "twice", base(repeat("i", 0, 1, use), repeat("i", 0, 1, use)))
	right(t, "within, though it is never done", base(repeat("i", 5, 5, use)))
	faultIs(t, "unknown, though it is never done", base(repeat("i", 5, 5, set("x", name("j")))), at(11, 5))
	faultIs(t, "the name of a loop with no statement", base(repeat("i", 0, 1), release("i")), at(11, 4))
}

// naming: what y is where a statement stands at a place; clash: a loop has a declaration's name, which a later clause tells.
type naming struct {
	what  string
	is    int
	clash bool
	p     api.Program
	place int
}

func meanings(s api.Stmt) []naming {
	with := func(d api.Decl, body ...api.Stmt) api.Program {
		p := base(body...)
		p.Decls = append(p.Decls, d)
		return p
	}
	rows := []naming{
		{"a table", aTable, false, with(table("y", 2, 1, 2), s), 4},
		{"a loop", aLoop, false, base(repeat("y", 0, 2, s)), 4},
		{"an outer loop", aLoop, false, base(repeat("y", 0, 2, repeat("i", 0, 1, branch(num(1), nil, list(s))))), 7},
		{"a loop of a table's name", aLoop, true, with(table("y", 2, 1, 2), repeat("y", 0, 2, s)), 5},
		{"a table behind a loop", aTable, true, with(table("y", 2, 1, 2), repeat("y", 0, 2), s), 5},
		{"a loop in a loop of its name", aLoop, true, base(repeat("i", 0, 1), repeat("y", 0, 2, repeat("y", 0, 2, s))), 6},
	}
	for _, kind := range otherKinds() {
		rows = append(rows,
			naming{fmt.Sprint("a single of kind ", kind), aSingle, false, with(single(kind, "y"), s), 4},
			naming{fmt.Sprint("an array of kind ", kind), anArray, false, with(array(kind, "y", 2), s), 4},
			naming{fmt.Sprint("an array of one word of kind ", kind), anArray, false, with(array(kind, "y", 1), s), 4},
			naming{fmt.Sprint("a loop of a single's name of kind ", kind), aLoop, true, with(single(kind, "y"), repeat("y", 0, 2, s)), 5},
			naming{fmt.Sprint("a loop of an array's name of kind ", kind), aLoop, true, with(array(kind, "y", 2), repeat("y", 0, 2, s)), 5},
			naming{fmt.Sprint("an array behind a loop of kind ", kind), anArray, true, with(array(kind, "y", 2), repeat("y", 0, 2), s), 5},
			naming{fmt.Sprint("a single behind a loop of kind ", kind), aSingle, true, with(single(kind, "y"), repeat("y", 0, 2), s), 5})
	}
	return rows
}

// TestKinds: clause 12: each use of a name against each thing that it may name; a loop that has a declaration's name stands ahead of it.
func TestKinds(t *testing.T) {
	for _, r := range []struct {
		what   string
		s      api.Stmt
		behind int // how many places the use stands behind the statement
		takes  int
	}{
		{"name", set("x", name("y")), 1, aLoop | aSingle},
		{"name in a part", set("x", of(api.EAdd, num(1), name("y"))), 3, aLoop | aSingle},
		{"name at an index", store("a", name("y"), num(1)), 1, aLoop | aSingle},
		{"name in an if", branch(name("y"), nil, nil), 1, aLoop | aSingle},
		{"load", set("x", load("y", num(0))), 1, anArray | aTable},
		{"load of a load", set("x", load("a", load("y", num(0)))), 2, anArray | aTable},
		{"set", set("y", num(0)), 0, aSingle},
		{"release", release("y"), 0, aSingle},
		{"store", store("y", num(0), num(0)), 0, anArray},
	} {
		for _, m := range meanings(r.s) {
			what := r.what + " of " + m.what
			switch {
			case r.takes&m.is == 0:
				faultIs(t, what, m.p, at(12, m.place+r.behind))
			case m.clash && m.what == "a loop in a loop of its name":
				faultIs(t, what, m.p, at(15, 5))
			case m.clash:
				faultIs(t, what, m.p, at(15, 4))
			default:
				right(t, what, m.p)
			}
		}
	}
}

// TestNumbers: clause 13, at each width and each place of an expression.
func TestNumbers(t *testing.T) {
	for _, w := range widths() {
		top := uint64(math.MaxUint64) >> (64 - w)
		for _, n := range []uint64{0, 1, 15, top - 1, top} {
			for _, h := range exprHosts(num(n)) {
				h.p.Width = w
				right(t, fmt.Sprint(h.what, ", ", n, " of width ", w), h.p)
			}
		}
		if w == 64 {
			continue
		}
		for _, n := range []uint64{top + 1, top + 2, (top + 1) << 1, 1 << 63, math.MaxUint64} {
			for _, h := range exprHosts(num(n)) {
				h.p.Width = w
				faultIs(t, fmt.Sprint(h.what, ", ", n, " of width ", w), h.p, at(13, h.place))
			}
		}
	}
	faultIs(t, "though it is never done", base(repeat("i", 3, 3, set("x", num(1<<16)))), at(13, 5))
}

// TestBounds: clause 14, at each width.
func TestBounds(t *testing.T) {
	for _, w := range widths() {
		top := uint64(math.MaxUint64) >> (64 - w)
		fine := [][2]uint64{{0, 0}, {0, 1}, {1, 1}, {7, 9}, {top, top}, {top - 1, top}, {top - 9, top}}
		bad := [][2]uint64{{1, 0}, {9, 7}, {top, top - 1}, {top, 0}, {math.MaxUint64, 0}, {math.MaxUint64, math.MaxUint64 - 1}}
		if w < 64 {
			fine = append(fine, [][2]uint64{{top, top + 1}, {top + 1, top + 1}}...)
			bad = append(bad, [][2]uint64{{0, top + 2}, {top, top + 2}, {top + 2, top + 2}, {top + 2, top + 1}, {0, math.MaxUint64}, {math.MaxUint64, math.MaxUint64}, {1 << 63, 1 << 63}}...)
		}
		for _, b := range fine {
			for _, h := range stmtHosts(repeat("k", b[0], b[1])) {
				h.p.Width = w
				right(t, fmt.Sprint(h.what, ", ", b, " of width ", w), h.p)
			}
		}
		for _, b := range bad {
			for _, h := range stmtHosts(repeat("k", b[0], b[1], release("x"))) {
				h.p.Width = w
				faultIs(t, fmt.Sprint(h.what, ", ", b, " of width ", w), h.p, at(14, h.place))
			}
		}
	}
	right(t, "all words of 16 bits, but one of them", wide(16, repeat("i", 1, 1<<16)))
	faultIs(t, "far too many of 64 bits", wide(64, repeat("i", 0, math.MaxUint64)), at(16, -1))
}

// TestLoops: clause 15: a loop's name is in use.
func TestLoops(t *testing.T) {
	for _, s := range []string{"x", "a", "T"} {
		for _, h := range stmtHosts(repeat(s, 0, 1)) {
			faultIs(t, h.what+" "+s, h.p, at(15, h.place))
		}
	}
	for _, s := range []string{"k", "p", "X", "t", "xx", "_"} {
		for _, h := range stmtHosts(repeat(s, 0, 1)) {
			right(t, h.what+" "+s, h.p)
		}
	}
	inner := repeat("i", 0, 1)
	faultIs(t, "in one of its name", base(repeat("i", 0, 1, inner)), at(15, 4))
	faultIs(t, "further within", base(repeat("i", 0, 1, repeat("j", 0, 1, branch(num(1), nil, list(release("x"), inner))))), at(15, 8))
	faultIs(t, "in the second", base(repeat("j", 0, 1, repeat("i", 0, 1, inner))), at(15, 5))
	faultIs(t, "though it is never done", base(repeat("i", 2, 2, inner)), at(15, 4))
	right(t, "beside one another", base(inner, inner, repeat("j", 0, 1, inner, inner), branch(num(1), list(inner), list(inner))))
	right(t, "as the program", base(repeat("p", 0, 1)))
	p := base(repeat("i", 0, 1))
	p.Decls = append(p.Decls, single(api.DSecret, "p"))
	right(t, "a declaration as the program", p)
}
