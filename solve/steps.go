package solve

import (
	"cadence/aig"
	"cadence/api"
	"cadence/blast"
	"cadence/cnf"
	"cadence/dpll"
	"cadence/simp"
	"cadence/tseitin"
)

// isInput: what aig.Node says that an input is.
const isInput = 1

// What the calls go through, in this order: the truths of a list, or of a pair; their formula; what it comes to.

func stepsOfTruths() []step {
	return []step{(*query).needTerms, (*query).needTruths}
}

func stepsOfPair() []step {
	return []step{(*query).needTerms, (*query).needOneSort, (*query).askUnlike}
}

func stepsToFormula() []step {
	return []step{(*query).simplify, (*query).beginGraph, (*query).blast, (*query).encode}
}

func stepsToBits() []step {
	return []step{(*query).needFormula, (*query).tellBits}
}

func stepsToResult() []step {
	return []step{(*query).needRoom, (*query).needClauses, (*query).search, (*query).tellValues}
}

// needTerms comes ahead of any look at sorts: that one is no term is told first, wherever it stands.
func (q *query) needTerms() {
	if q.given.store == nil {
		refuse(api.ErrNil)
	}
	for _, t := range q.given.list {
		_, e := q.given.store.Node(t)
		refuse(e)
	}
}

func (q *query) needTruths() {
	for _, t := range q.given.list {
		if q.given.widthOf(t) != 0 {
			refuse(api.ErrSort)
		}
	}
	q.asked = q.given
}

// needOneSort: of a pair.
func (q *query) needOneSort() {
	if q.given.widthOf(q.given.list[0]) != q.given.widthOf(q.given.list[1]) {
		refuse(api.ErrSort)
	}
}

// askUnlike: the one truth is that a pair is not the same. It is made of the simple terms, in their maker, since the store that was given stays as it is.
func (q *query) askUnlike() {
	m, pair, e := simp.Simplify(q.given.store, q.given.list...)
	refuse(e)
	same, e := m.Bin(api.OpEq, pair[0], pair[1])
	refuse(e)
	unlike, e := m.Un(api.OpNot, same)
	refuse(e)
	q.asked = terms{m.Store(), []int{unlike}}
}

func (q *query) simplify() {
	m, truths, e := simp.Simplify(q.asked.store, q.asked.list...)
	refuse(e)
	q.asked = terms{m.Store(), truths}
}

func (q *query) beginGraph() {
	var e api.Errno
	q.graph = aig.New()
	q.blaster, e = blast.New(q.asked.store, q.graph)
	refuse(e)
}

func (q *query) blast() {
	for _, t := range q.asked.list {
		vector, e := q.blaster.Bits(t)
		refuse(e)
		q.literals = append(q.literals, vector...)
	}
}

// encode does not fail: what it means that there is no room differs from call to call.
func (q *query) encode() {
	q.formula, q.cone, q.unfit = tseitin.Encode(q.graph, q.literals)
}

func (q *query) needFormula() { refuse(q.unfit) }

// tellBits: which bit of which variable each of the formula's variables is.
func (q *query) tellBits() {
	inputs := q.blaster.Inputs()
	q.bits = make([]Bit, len(q.cone))
	for i, n := range q.cone {
		kind, node, e := q.graph.Node(n)
		refuse(e)
		if kind == isInput {
			q.bits[i] = Bit(inputs[node.A])
		}
	}
}

func (q *query) needRoom() {
	if q.unfit != api.OK {
		spend(api.CRoom)
	}
	if _, e := cnf.Check(q.formula); e != api.OK {
		spend(api.CRoom)
	}
}

func (q *query) needClauses() {
	n := int64(len(q.formula.Clauses))
	if q.clauses >= 0 && n > q.clauses {
		spend(api.CClauses)
	}
	q.result.Clauses = n
}

func (q *query) search() {
	found, e := dpll.Solve(q.formula, q.decisions)
	refuse(e)
	q.model = found.Model
	q.result.Kind, q.result.Decisions = found.Kind, found.Decisions
	if found.Kind == api.Spent {
		q.result.Which = api.CDecisions
	}
}

// tellValues: of a model. A variable that is gone when the truths are simple may be anything, and is told as 0.
func (q *query) tellValues() {
	if q.result.Kind != api.Sat {
		return
	}
	in, e := tseitin.Lift(q.graph, q.cone, q.model)
	refuse(e)
	lifted, e := q.blaster.Lift(in)
	refuse(e)
	q.result.Values = q.given.variables()
	// Both lists rise by names, and simple terms have no variable that was not given.
	for i, v := range q.result.Values {
		if len(lifted) > 0 && lifted[0].Name == v.Name {
			q.result.Values[i].Num = lifted[0].Num
			lifted = lifted[1:]
		}
	}
}
