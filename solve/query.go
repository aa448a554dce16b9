package solve

import (
	"slices"
	"strings"

	"cadence/aig"
	"cadence/api"
	"cadence/blast"
	"cadence/term"
)

// query is what one call asks, and what its steps have found up to now.
type query struct {
	given              terms // what the caller named: the variables of these are told
	clauses, decisions int64 // the bounds

	asked    terms // the truths, in the form that the last step gave them
	graph    *aig.Graph
	blaster  *blast.Blaster
	literals []uint32 // of the truths, in the graph
	formula  api.Formula
	cone     []int     // the node of each of the formula's variables
	unfit    api.Errno // why there is no formula

	model  []int8
	result api.Result
	bits   []Bit
}

// step: a part of a query's way, which uses what the steps ahead of it have found. It fails by a panic with an ending.
type step func(*query)

// ending: what a query answers when a step fails.
type ending struct {
	result  api.Result
	refusal api.Errno
}

// through goes through the steps; the first that fails ends it.
func (q *query) through(steps []step) (refusal api.Errno) {
	defer func() {
		if why := recover(); why != nil {
			end := why.(ending)
			q.result, refusal = end.result, end.refusal
		}
	}()
	for _, s := range steps {
		s(q)
	}
	return api.OK
}

// refuse fails with an error, if it is one.
func refuse(e api.Errno) {
	if e != api.OK {
		panic(ending{refusal: e})
	}
}

// spend fails for want of clauses or room: nothing is counted then.
func spend(which int) {
	panic(ending{result: api.Result{Kind: api.Spent, Which: which}})
}

// terms: some of a store.
type terms struct {
	store *term.Store
	list  []int
}

// widthOf: the sort of a term.
func (t terms) widthOf(x int) int {
	n, e := t.store.Node(x)
	refuse(e)
	return n.W
}

// variables: those that the terms hang on, rising by their names, each as 0.
func (t terms) variables() []api.Value {
	order, e := t.store.Order(t.list...)
	refuse(e)
	var all []api.Value
	for _, x := range order {
		if n, _ := t.store.Node(x); n.Op == api.OpVar {
			all = append(all, api.Value{Name: n.Name, W: n.W})
		}
	}
	slices.SortFunc(all, func(v, w api.Value) int { return strings.Compare(v.Name, w.Name) })
	return all
}
