package check

import (
	"cadence/api"
	"cadence/flat"
	"cadence/pair"
	"cadence/run"
	"cadence/solve"
)

// walk goes all ways of a right program, one behind the other, up to a verdict.
type walk struct {
	*counters
	program api.Program
	way     *pair.Way
	waiting []*pair.Way // a stack
	done    <-chan struct{}
	asked   func(w *pair.Way, truths []int, kind int) // is told of each query; nil: nobody is
}

func newWalk(p api.Program, b api.Budget) *walk {
	return &walk{counters: newCounters(b), program: p}
}

// verdict: what the walk comes to. Without any path nothing is begun.
func (w *walk) verdict() api.Verdict {
	if w.left(api.CPaths) == 0 {
		return unknown(api.CPaths)
	}
	w.begin()
	v := w.through()
	if v.Kind != api.Stopped {
		v.Used = w.told()
	}
	return v
}

// begin: a right program has flat code, and that a way.
func (w *walk) begin() {
	f, _ := flat.Make(w.program)
	w.way, _ = pair.Start(f)
	w.add(api.CPaths, 1)
}

func (w *walk) through() (v api.Verdict) {
walk:
	for {
		if isStopped(w.done) {
			v = stopped()
			break walk
		}
		ask := w.way.Next(w.left(api.CTerms))
		w.add(api.CTerms, ask.Weight)
		switch ask.Kind {
		case pair.Differ:
			r := w.query(ask.Truth)
			switch r.Kind {
			case api.Unsat:
				w.way.Agree()
			case api.Sat:
				v = w.leak(r.Values)
				break walk
			default:
				v = unknown(r.Which)
				break walk
			}
		case pair.Branch:
			if w.left(api.CPaths) == 0 {
				v = unknown(api.CPaths)
				break walk
			}
			w.fork()
		case pair.End:
			if len(w.waiting) == 0 {
				v = secure()
				break walk
			}
			w.resume()
		default:
			v = unknown(api.CTerms)
			break walk
		}
	}
	return v
}

// query: can a truth be, on this way?
func (w *walk) query(truth int) api.Result {
	truths := append(w.way.Assumed(), truth)
	r, e := solve.Solve(w.way.Store(), truths, w.left(api.CClauses), w.left(api.CDecisions))
	if e != api.OK { // the terms are the way's own, so there can only be no room for the graph: it is too great for a formula all the more
		r = api.Result{Kind: api.Spent, Which: api.CRoom}
	}
	w.add(api.CClauses, r.Clauses)
	w.add(api.CDecisions, r.Decisions)
	if w.asked != nil {
		w.asked(w.way, truths, r.Kind)
	}
	return r
}

// fork: the way into Else waits.
func (w *walk) fork() {
	then, otherwise, _ := w.way.Fork()
	w.way = then
	w.waiting = append(w.waiting, otherwise)
	w.add(api.CPaths, 1)
}

// resume: the way that was laid last; the stack does not hold on to it.
func (w *walk) resume() {
	last := len(w.waiting) - 1
	w.way, w.waiting[last] = w.waiting[last], nil
	w.waiting = w.waiting[:last]
}

// leak: the values of a query show one, at the way's next event.
func (w *walk) leak(values []api.Value) api.Verdict {
	public, _ := run.Public(w.program)
	v := api.Verdict{Kind: api.Leak, At: w.way.Events()}
	v.X, v.Y = witness(public, values)
	return v
}

// isStopped: is a channel closed, or does something come over it? A nil one never stops.
func isStopped(done <-chan struct{}) bool {
	select {
	case <-done:
		return true
	default:
		return false
	}
}
