package simp

import (
	"cadence/api"
	"cadence/bits"
)

// part: a term with its node. A truth or a constant that a rule names has no number as long as nobody needs it in the store.
type part struct {
	api.Node
	number int
}

// node: what is to be made, its parts at hand. Without an operation it is its part a, as it stands.
type node struct {
	op, w   int
	num     uint64
	a, b, c part
}

// rule: what a node becomes, and whether it becomes another at all.
type rule func(m *Maker, n node) (step, bool)

// step: what a rule names: a node that is made in its turn.
type step struct {
	node
	turned bool // a not is made of what the node comes to
}

// build: what is made of a node. It is a loop, since a rule after the other may go down through terms that are deeper than calls can be nested.
func (m *Maker) build(n node) part {
	nots := 0
	for n.op > 0 {
		s, fits := m.rules[n.op](m, n)
		if !fits {
			n.a = m.itself(n)
			break
		}
		if s.turned {
			nots++
		}
		n = s.node
	}
	made := n.a
	for range nots {
		made = m.build(un(api.OpNot, made))
	}
	return made
}

// itself: the term of a node that no rule fits.
func (m *Maker) itself(n node) part {
	made := api.Node{
		Op: n.op, W: n.w, Num: n.num,
		A: m.number(n.a), B: m.number(n.b), C: m.number(n.c),
	}
	t, _ := m.store.Make(made)
	return part{Node: made, number: t}
}

// part: of a term by its number; the empty one of 0.
func (m *Maker) part(t int) part {
	n, _ := m.store.Node(t)
	return part{Node: n, number: t}
}

// number: of a part, which is in the store from then on; 0 of the empty one.
func (m *Maker) number(p part) int {
	if p.number > 0 || p.Op == 0 {
		return p.number
	}
	t, _ := m.store.Make(p.Node)
	return t
}

// What rules answer.

// none: the node becomes no other.
func none() (step, bool) { return step{}, false }

// take: a part as it stands.
func take(p part) (step, bool) { return step{node: node{a: p}}, true }

// next: a node that is made in its turn.
func next(n node) (step, bool) { return step{node: n}, true }

// turned: the not of a node that is made ahead of it.
func turned(n node) (step, bool) { return step{node: n, turned: true}, true }

// What they name.

func truth(b bool) part {
	if b {
		return part{Node: api.Node{Op: api.OpTrue}}
	}
	return part{Node: api.Node{Op: api.OpFalse}}
}

// constant: the word of the lowest w bits of x.
func constant(w int, x uint64) part {
	return part{Node: api.Node{Op: api.OpConst, W: w, Num: bits.Trim(w, x)}}
}

func un(op int, a part) node { return node{op: op, w: a.W, a: a} }

// bin: of operations of two, truths or words.
func bin(op int, a, b part) node {
	w := 0
	switch {
	case op == api.OpCat:
		w = a.W + b.W
	case op >= api.OpBand:
		w = a.W
	}
	return node{op: op, w: w, a: a, b: b}
}

func ite(a, b, c part) node { return node{op: api.OpIte, w: b.W, a: a, b: b, c: c} }

func slice(a part, from uint64, w int) node { return node{op: api.OpSlice, w: w, num: from, a: a} }

func ext(op int, a part, w int) node { return node{op: op, w: w, a: a} }

// What they ask.

func (p part) isConst() bool { return p.Op == api.OpConst }

// is: is it the constant x?
func (p part) is(x uint64) bool { return p.isConst() && p.Num == x }

func (p part) isOnes() bool { return p.isConst() && p.Num == bits.Trim(p.W, ^uint64(0)) }

// isFixed: is it a constant or a truth that is told?
func (p part) isFixed() bool {
	return p.Op == api.OpConst || p.Op == api.OpTrue || p.Op == api.OpFalse
}

// same: are they one term? A store has each node once, and a constant may have no number yet.
func same(a, b part) bool { return a.Node == b.Node }

// isOf: is one of the two that operation of the other?
func (m *Maker) isOf(op int, a, b part) bool {
	return a.Op == op && same(m.part(a.A), b) || b.Op == op && same(m.part(b.A), a)
}
