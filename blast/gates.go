package blast

import (
	"cadence/aig"
	"cadence/api"
)

// circuits makes the gates of one term. With the first one that the graph refuses it ends: all further ones are 0, and the graph is not asked for them.
type circuits struct {
	graph   *aig.Graph
	refusal api.Errno
}

func (c *circuits) input() uint32 {
	return c.ask(c.graph.Input)
}

func (c *circuits) and(x, y uint32) uint32 {
	return c.ask(func() (uint32, api.Errno) { return c.graph.And(x, y) })
}

func (c *circuits) or(x, y uint32) uint32 {
	return c.ask(func() (uint32, api.Errno) { return c.graph.Or(x, y) })
}

func (c *circuits) xor(x, y uint32) uint32 {
	return c.ask(func() (uint32, api.Errno) { return c.graph.Xor(x, y) })
}

// mux: x where it is chosen, else y.
func (c *circuits) mux(choice, x, y uint32) uint32 {
	return c.ask(func() (uint32, api.Errno) { return c.graph.Mux(choice, x, y) })
}

func (c *circuits) ask(gate func() (uint32, api.Errno)) uint32 {
	if c.refusal != api.OK {
		return 0
	}
	l, e := gate()
	c.refusal = e
	return l
}
