package wf

import (
	"fmt"
	"testing"

	"cadence/api"
)

// piece: something that violates just one clause, wherever it is put into base.
type piece struct {
	number int
	turn   func(p *api.Program) // of the program as a whole; nil, if there is nothing
	decls  []api.Decl
	body   []api.Stmt
	things int // how many places body has
	behind int // which of the places of decls, or else of body, is the wrong one; -1: it is the program's
}

// pieces: one for each clause; several of them stand beside one another if they have unlike tails.
func pieces(tail string) []piece {
	turned := func(number int, turn func(p *api.Program)) piece {
		return piece{number: number, turn: turn, behind: -1}
	}
	in := func(number, behind int, decls ...api.Decl) piece {
		return piece{number: number, decls: decls, behind: behind}
	}
	with := func(number, things, behind int, body ...api.Stmt) piece {
		return piece{number: number, body: body, things: things, behind: behind}
	}
	var many, great []api.Decl
	for i := range 254 {
		many = append(many, single(api.DVar, fmt.Sprint("m", i, tail)))
	}
	for i := range 17 {
		great = append(great, array(api.DSecret, fmt.Sprint("g", i, tail), 256))
	}
	return []piece{
		turned(1, func(p *api.Program) { p.Name = "if" }),
		with(1, 1, -1, release("end")),
		with(1, 2, -1, set("x", api.Expr{Kind: 27})),
		in(1, -1, single(6, "k"+tail)),
		turned(2, func(p *api.Program) { p.Width = 12 }),
		turned(3, func(p *api.Program) { p.Line = 3 }),
		{number: 4, decls: many, behind: -1},
		in(5, 1, single(api.DSecret, "k"+tail), single(api.DVar, "k"+tail)),
		in(5, 0, single(api.DSecret, "x")),
		in(6, 0, array(api.DVar, "s"+tail, 3)),
		in(6, 1, single(api.DVar, "r"+tail), array(api.DVar, "q"+tail, 512)),
		in(7, 0, table("t"+tail, 4, 1, 2, 3)),
		in(7, 1, table("u"+tail, 1, 1), table("v"+tail, 2, 1, 2, 3)),
		in(8, 0, table("w"+tail, 2, 1, 1<<16)),
		{number: 9, decls: great, behind: -1},
		with(10, 2+64, 1, set("x", tower(65, api.ENeg, 0))),
		with(10, 2*64+1, 2*64, nested(65, 0, release("x"))),
		with(11, 2, 1, set("x", name("no"+tail))),
		with(11, 3, 0, store("no"+tail, num(0), num(1))),
		with(12, 2, 1, set("x", name("a"))),
		with(12, 2, 0, set("T", num(1))),
		with(12, 2, 1, repeat("i"+tail, 0, 1, release("i"+tail))),
		with(13, 4, 3, release("x"), store("a", num(1), num(1<<16))),
		with(14, 1, 0, repeat("i"+tail, 2, 1)),
		with(14, 2, 1, release("x"), repeat("i"+tail, 0, 1<<16+1)),
		with(15, 1, 0, repeat("x", 0, 1)),
		with(15, 3, 2, repeat("i"+tail, 0, 1, repeat("j"+tail, 0, 1, repeat("i"+tail, 0, 1)))),
		with(16, 1, -1, repeat("i"+tail, 0, 1<<16)),
		with(16, 3, -1, repeat("i"+tail, 0, 300, repeat("j"+tail, 0, 300, release("x")))),
	}
}

// put: base with pieces, one behind the other; and the place that each of them tells.
func put(list ...piece) (api.Program, []int) {
	p := base(release("x"))
	var starts []int
	for _, x := range list {
		if x.turn != nil {
			x.turn(&p)
		}
		starts = append(starts, len(p.Decls))
		p.Decls = append(p.Decls, x.decls...)
	}
	next := len(p.Decls) + 1
	for i, x := range list {
		p.Body = append(p.Body, x.body...)
		switch {
		case x.behind < 0:
			starts[i] = -1
		case len(x.decls) > 0:
			starts[i] += x.behind
		default:
			starts[i] = next + x.behind
		}
		next += x.things
	}
	p.Body = append(p.Body, release("x"))
	return p, starts
}

// TestAlone: each clause violated alone.
func TestAlone(t *testing.T) {
	seen := map[int]bool{}
	for i, x := range pieces("") {
		p, places := put(x)
		faultIs(t, fmt.Sprint("piece ", i), p, at(x.number, places[0]))
		seen[x.number] = true
	}
	is(t, "clauses", len(seen), 16)
	p, _ := put()
	right(t, "none", p)
}

// TestTwoClauses: two clauses violated at once, in either order of places: the first clause is told (F16.1).
func TestTwoClauses(t *testing.T) {
	for _, a := range pieces("1") {
		for _, b := range pieces("2") {
			if a.number == b.number {
				continue
			}
			p, places := put(a, b)
			if a.number < b.number {
				faultIs(t, fmt.Sprint(a.number, " ahead of ", b.number), p, at(a.number, places[0]))
			} else {
				faultIs(t, fmt.Sprint(a.number, " ahead of ", b.number), p, at(b.number, places[1]))
			}
		}
	}
}

// TestTwoPlaces: two places of one clause: the first one is told (F16.1).
func TestTwoPlaces(t *testing.T) {
	for _, a := range pieces("1") {
		for _, b := range pieces("2") {
			if a.number != b.number {
				continue
			}
			p, places := put(a, b)
			faultIs(t, fmt.Sprint("twice ", a.number), p, at(a.number, places[0]))
			p, places = put(pieces("3")[0], a, b) // and behind what is told ahead of all
			faultIs(t, fmt.Sprint("behind the first, twice ", a.number), p, at(1, places[0]))
		}
	}
}

// TestThreeClauses: three at once.
func TestThreeClauses(t *testing.T) {
	k := picker(16)
	for range 3000 {
		list := []piece{pickOf(&k, pieces("1")...), pickOf(&k, pieces("2")...), pickOf(&k, pieces("3")...)}
		p, places := put(list...)
		first := 0
		for i, x := range list {
			if x.number < list[first].number {
				first = i
			}
		}
		faultIs(t, fmt.Sprint(list[0].number, list[1].number, list[2].number), p, at(list[first].number, places[first]))
	}
}
