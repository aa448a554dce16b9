package rup

import (
	"math/bits"
	"slices"

	"cadence/api"
	"cadence/prop"
)

// bench is an engine with the clauses that are there. An engine gives no clause back, so a clause that will be taken away has a guard in it: one more literal, a variable of its own that is false by a decision. Guards are decided in the order in which their clauses go, the last one first. So taking away is going back by a level: without the decision the clause says nothing of the formula's variables. Where the guards do not reach, the engine is made anew of what is there.
type bench struct {
	plan
	vars  int
	spare []int // variables for guards

	engine *prop.Engine // nil, if it must be made anew
	known  int          // how many of the plan's clauses have come
	gone   int          // how many of them were taken away
	since  int          // how many when the engine was made
	guards int          // how many of those that are taken away from then on have a guard; the first of them has the first variable

	line api.Clause // room for a clause and its guard
}

// newBench: with the formula's clauses, and at most so many guards at one time.
func newBench(f api.Formula, p plan, most int) *bench {
	return &bench{plan: p, vars: f.Vars, spare: p.unused(f.Vars, most), known: len(f.Clauses)}
}

// drop: the next one of the clauses that are taken away is there no more.
func (b *bench) drop() { b.gone++ }

// add: the next one of the plan's clauses is there.
func (b *bench) add() {
	if b.engine != nil && !b.put(b.known) {
		b.engine = nil
	}
	b.known++
}

// follows: does a clause follow by units from those that are there?
func (b *bench) follows(c api.Clause) bool {
	b.catchUp()
	return !b.rests() || clashes(b.engine, c)
}

// catchUp: the engine loses what was taken away since it was asked last.
func (b *bench) catchUp() {
	left := b.guards - (b.gone - b.since)
	switch {
	case b.engine == nil || left < 0:
		b.renew()
	case b.engine.Level() > left:
		b.back(left)
	}
}

// back: so many guards are left. What follows by a new clause stands at the level at which that came, however little it hangs on, and would be lost and found again with each guard that goes. So every second time it goes back by one guard more than it must, every fourth time by three, and so on: the guards are decided again, and what needs none of them stands below them then.
func (b *bench) back(left int) {
	gone, was := b.guards-left, b.guards-b.engine.Level()
	more := 1<<(bits.Len(uint(gone^was))-1) - 1
	b.engine.Back(max(0, left-more))
}

// rests: decides the guards that stand, each one behind all that follows without it; false, if there is a conflict.
func (b *bench) rests() bool {
	for b.engine.Propagate() {
		next := b.guards - b.engine.Level()
		if next <= b.gone-b.since {
			return true
		}
		// A guard is refused just if it is true: its clause is false without it.
		if b.engine.Decide(-b.spare[next-1]) != api.OK {
			return false
		}
	}
	return false
}

// renew: an engine of the clauses that are there.
func (b *bench) renew() {
	b.since = b.gone
	b.guards = b.reach()
	vars := b.vars
	if b.guards > 0 {
		vars = max(vars, b.spare[b.guards-1])
	}
	b.engine, _ = prop.New(vars)
	for k := range b.known {
		if b.stands(k) {
			b.put(k)
		}
	}
}

// reach: how many of the clauses that go next may have a guard: as many as there are variables for, up to the first that is too long; and of the room for literals half is left for clauses that come.
func (b *bench) reach() int {
	room := api.MaxLits
	for k, c := range b.all[:b.known] {
		if b.stands(k) {
			room -= len(c)
		}
	}
	reach := min(len(b.spare), b.drops-b.gone, room/2)
	if k, _ := slices.BinarySearch(b.bare, b.gone); k < len(b.bare) {
		reach = min(reach, b.bare[k]-b.gone)
	}
	return reach
}

// stands: is a clause that has come still there?
func (b *bench) stands(k int) bool { return b.until[k] >= b.gone }

// put: lays a clause into the engine; false, if that has no room for it.
func (b *bench) put(k int) bool {
	c := b.all[k]
	if turn := b.until[k] - b.since; turn < b.guards {
		b.line = append(append(b.line[:0], c...), b.spare[turn])
		c = b.line
	}
	return b.engine.Add(c...) == api.OK
}
