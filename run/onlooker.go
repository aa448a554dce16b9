package run

import "cadence/api"

// onlooker sees a run, event by event.
type onlooker interface {
	see(e api.Event)
}

// recorder is an onlooker that keeps all that it sees.
type recorder struct {
	trace []api.Event
}

func (r *recorder) see(e api.Event) { r.trace = append(r.trace, e) }

// has: does the trace go on at a place?
func (r *recorder) has(k int) bool { return k < len(r.trace) }

// holds: is that event the trace's at a place?
func (r *recorder) holds(k int, e api.Event) bool { return r.has(k) && r.trace[k] == e }

// isRelease: is the trace's event at a place a release?
func (r *recorder) isRelease(k int) bool { return r.has(k) && r.trace[k].Kind == api.EvRelease }

// counter is an onlooker that has one run recorded, and counts how far another one goes the same way: of the other nothing is kept but the event at which they part.
type counter struct {
	recorder
	same  int       // how many events are those that were recorded
	apart bool      // another event came than was recorded, or one more
	other api.Event // that event
}

func (c *counter) see(e api.Event) {
	switch {
	case c.apart:
	case c.holds(c.same, e):
		c.same++
	default:
		c.apart, c.other = true, e
	}
}

// parting: the first place at which the runs differ, once both are at their end; 0, false, if they do not.
func (c *counter) parting() (int, bool) {
	if c.apart || c.has(c.same) {
		return c.same, true
	}
	return 0, false
}

// released: do both runs have a release where they part?
func (c *counter) released() bool {
	return c.isRelease(c.same) && c.apart && c.other.Kind == api.EvRelease
}
