package check

import (
	"fmt"

	"cadence/api"
	"cadence/flat"
	"cadence/pair"
	"cadence/solve"
)

// plainCheck is the check in the chapter's words, but for the stack: a way into Then is gone to its last end by a call, and the one into Else by the next call.
type plainCheck struct {
	program api.Program
	b, used api.Budget
	queries []Query
	verdict api.Verdict // Kind 0: none yet
}

// plainly: the queries and the verdict of a right program.
func plainly(p api.Program, b api.Budget) ([]Query, api.Verdict) {
	c := plainCheck{program: p, b: b}
	if b.Paths == 0 {
		return nil, api.Verdict{Kind: api.Unknown, Which: api.CPaths}
	}
	f, _ := flat.Make(p)
	w, _ := pair.Start(f)
	c.used.Paths = 1
	c.goes(w)
	if c.verdict.Kind == 0 {
		c.verdict.Kind = api.Secure
	}
	c.verdict.Used = c.used
	return c.queries, c.verdict
}

func plainLeft(bound, used int64) int64 {
	if bound < 0 {
		return -1
	}
	return bound - used
}

func (c *plainCheck) unknown(which int) {
	c.verdict = api.Verdict{Kind: api.Unknown, Which: which}
}

// goes: a way, and all that come of it.
func (c *plainCheck) goes(w *pair.Way) {
	for c.verdict.Kind == 0 {
		a := w.Next(plainLeft(c.b.Terms, c.used.Terms))
		c.used.Terms += a.Weight
		if a.Kind == pair.End {
			return
		}
		if a.Kind == pair.Room {
			c.unknown(api.CTerms)
		}
		if a.Kind == pair.Differ {
			c.differ(w, a.Truth)
		}
		if a.Kind == pair.Branch && c.b.Paths >= 0 && c.used.Paths >= c.b.Paths {
			c.unknown(api.CPaths)
		} else if a.Kind == pair.Branch {
			c.used.Paths++
			then, otherwise, _ := w.Fork()
			c.goes(then)
			c.goes(otherwise)
			return
		}
	}
}

func (c *plainCheck) differ(w *pair.Way, truth int) {
	var truths []int
	truths = append(truths, w.Assumed()...)
	truths = append(truths, truth)
	r, _ := solve.Solve(w.Store(), truths, plainLeft(c.b.Clauses, c.used.Clauses), plainLeft(c.b.Decisions, c.used.Decisions))
	c.used.Clauses += r.Clauses
	c.used.Decisions += r.Decisions
	q := Query{Events: w.Events(), Kind: r.Kind}
	for _, x := range truths {
		s, _ := w.Store().Dump(x)
		q.Truths = append(q.Truths, s)
	}
	c.queries = append(c.queries, q)
	switch r.Kind {
	case api.Spent:
		c.unknown(r.Which)
	case api.Unsat:
		w.Agree()
	case api.Sat:
		c.verdict = api.Verdict{Kind: api.Leak, At: w.Events()}
		place := 0
		for _, d := range c.program.Decls {
			if d.Kind != api.DPublic && d.Kind != api.DSecret {
				continue
			}
			for range max(d.Size, 1) {
				first, second := "x", "y"
				if d.Kind == api.DPublic {
					first, second = "p", "p"
				}
				c.verdict.X = append(c.verdict.X, plainValue(r.Values, fmt.Sprint(first, place)))
				c.verdict.Y = append(c.verdict.Y, plainValue(r.Values, fmt.Sprint(second, place)))
				place++
			}
		}
	}
}

func plainValue(values []api.Value, name string) uint64 {
	for _, v := range values {
		if v.Name == name {
			return v.Num
		}
	}
	return 0
}
