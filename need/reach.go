package need

import (
	"math/big"

	"cadence/api"
)

// reach: how a place in code is reached. What it points to is never changed, so that both parts of an if can begin with the same.
type reach struct {
	times *big.Int // how often
	gates *big.Int // that stand ahead of it on one way
}

// counter goes through flat code that may be, and keeps how far the counters can have gone.
type counter struct {
	flat                          *api.Flat
	terms, queries, clauses, room *big.Int
	product                       *big.Int // room that is used again and again, since what is reached very often makes long numbers
}

func newCounter(f *api.Flat) *counter {
	return &counter{flat: f, terms: new(big.Int), queries: new(big.Int), clauses: new(big.Int), room: new(big.Int), product: new(big.Int)}
}

// block goes through code that is reached so, and tells how what stands behind it is reached: its gates added, and its ways as often.
func (c *counter) block(list []api.Ins, at reach) reach {
	for i := range list {
		at = c.ins(&list[i], at)
	}
	return at
}

func (c *counter) ins(x *api.Ins, at reach) reach {
	w := c.weigh(x)
	c.grow(c.terms, at.times, big.NewInt(w.terms))
	at.gates = new(big.Int).Add(at.gates, big.NewInt(w.gates))
	if w.asks {
		c.query(at)
	}
	if x.Op == api.FIf {
		return joined(c.block(x.Then, at), c.block(x.Else, at))
	}
	return at
}

// query: one whose clauses are those of the gates up to here.
func (c *counter) query(at reach) {
	clauses := new(big.Int).Add(at.gates, big.NewInt(64))
	clauses.Mul(clauses, big.NewInt(4))
	c.queries.Add(c.queries, at.times)
	c.grow(c.clauses, at.times, clauses)
	if clauses.Cmp(c.room) > 0 {
		c.room = clauses
	}
}

// grow: a sum grows by so many, so many times.
func (c *counter) grow(sum, times, by *big.Int) {
	sum.Add(sum, c.product.Mul(times, by))
}

// joined: how it goes on behind an if. Behind each part the times are those ahead of it, times its ways; so both together are those times the ways of both together.
func joined(then, otherwise reach) reach {
	end := reach{times: new(big.Int).Add(then.times, otherwise.times), gates: then.gates}
	if otherwise.gates.Cmp(then.gates) > 0 {
		end.gates = otherwise.gates
	}
	return end
}
