package prop

import (
	"math"
	"slices"
	"testing"

	"cadence/api"
)

// picker tells numbers that look like chance, the same ones in each run.
type picker uint64

func (p *picker) below(n int) int {
	*p ^= *p << 13
	*p ^= *p >> 7
	*p ^= *p << 17
	return int(uint64(*p>>11) % uint64(n))
}

func (p *picker) literal(vars int) int {
	if p.below(2) == 0 {
		return -1 - p.below(vars)
	}
	return 1 + p.below(vars)
}

// clause: of at most so many literals; some may stand twice, or with their opposites.
func (p *picker) clause(vars, most int) []int {
	var c []int
	for range p.below(most + 1) {
		c = append(c, p.literal(vars))
	}
	return c
}

// farLiterals: numbers that are literals of no engine.
var farLiterals = []int{0, api.MaxVars + 1, -api.MaxVars - 1, math.MaxInt, math.MinInt, math.MinInt + 1, math.MaxInt32, math.MinInt32, 1 << 32, 1<<32 + 1, -1<<32 - 1}

// farVariables: numbers that are variables of no engine.
var farVariables = []int{0, -1, api.MaxVars + 1, -api.MaxVars, math.MaxInt, math.MinInt, math.MaxInt32, math.MinInt32, 1<<32 + 1}

func abs(l int) int { return max(l, -l) }

// plain is what an engine keeps, in the words of the chapter: all clauses are gone through for everything.
type plain struct {
	vars     int
	clauses  [][]int
	level    int
	trail    []int
	levels   []int // of the trail's literals
	kept     []int // how many clauses were there when a literal of the trail followed; -1 of a decision
	conflict bool
}

func (p *plain) value(l int) int {
	switch {
	case slices.Contains(p.trail, l):
		return 1
	case slices.Contains(p.trail, -l):
		return -1
	}
	return 0
}

func (p *plain) isFalse(c []int) bool {
	for _, l := range c {
		if p.value(l) != -1 {
			return false
		}
	}
	return true
}

// unit: the literal for which a clause is a unit; 0, if it is none.
func (p *plain) unit(c []int) int {
	for _, l := range c {
		others := slices.DeleteFunc(slices.Clone(c), func(o int) bool { return o == l })
		if p.value(l) == 0 && p.isFalse(others) {
			return l
		}
	}
	return 0
}

func (p *plain) isLiteral(l int) bool { return l != 0 && -p.vars <= l && l <= p.vars }

func (p *plain) add(c []int) api.Errno {
	total := len(c)
	for _, o := range p.clauses {
		total += len(o)
	}
	switch {
	case slices.ContainsFunc(c, func(l int) bool { return !p.isLiteral(l) }):
		return api.ErrLit
	case len(c) > 65536:
		return api.ErrClause
	case len(p.clauses)+1 > 1048576 || total > 4194304:
		return api.ErrClauses
	}
	p.clauses = append(p.clauses, slices.Clone(c))
	return api.OK
}

func (p *plain) push(l, kept int) {
	p.trail, p.levels, p.kept = append(p.trail, l), append(p.levels, p.level), append(p.kept, kept)
}

func (p *plain) decide(l int) api.Errno {
	switch {
	case !p.isLiteral(l):
		return api.ErrLit
	case p.conflict:
		return api.ErrConflict
	case p.value(l) != 0:
		return api.ErrSet
	}
	p.level++
	p.push(l, -1)
	return api.OK
}

func (p *plain) propagate() bool {
	for found := true; found && !p.conflict; {
		found = false
		for _, c := range p.clauses {
			if p.isFalse(c) {
				p.conflict = true
				break
			}
			if l := p.unit(c); l != 0 {
				p.push(l, len(p.clauses))
				found = true
			}
		}
	}
	return !p.conflict
}

func (p *plain) back(level int) api.Errno {
	if level < 0 || level > p.level {
		return api.ErrLevel
	}
	if level < p.level {
		p.conflict = false
	}
	p.level = level
	n := 0
	for n < len(p.levels) && p.levels[n] <= level {
		n++
	}
	p.trail, p.levels, p.kept = p.trail[:n], p.levels[:n], p.kept[:n]
	return api.OK
}

// twin is an engine beside its plain one: each call is made on both, and what they answer is held against each other.
type twin struct {
	t     testing.TB
	e     *Engine
	p     plain
	calls []any // all of them, for a fault's tale
}

func newTwin(t testing.TB, vars int) *twin {
	t.Helper()
	e, bad := New(vars)
	if bad != api.OK || e == nil {
		t.Fatalf("New(%d): %v", vars, bad)
	}
	return &twin{t: t, e: e, p: plain{vars: vars}}
}

func (w *twin) fail(form string, args ...any) {
	w.t.Helper()
	w.t.Fatalf("behind %v: "+form, append([]any{w.calls}, args...)...)
}

func (w *twin) add(c ...int) api.Errno {
	w.t.Helper()
	w.calls = append(w.calls, "Add", slices.Clone(c))
	got, want := w.e.Add(c...), w.p.add(c)
	if got != want {
		w.fail("%v, not %v", got, want)
	}
	return got
}

func (w *twin) decide(l int) api.Errno {
	w.t.Helper()
	w.calls = append(w.calls, "Decide", l)
	got, want := w.e.Decide(l), w.p.decide(l)
	if got != want {
		w.fail("%v, not %v", got, want)
	}
	return got
}

func (w *twin) back(level int) api.Errno {
	w.t.Helper()
	w.calls = append(w.calls, "Back", level)
	got, want := w.e.Back(level), w.p.back(level)
	if got != want {
		w.fail("%v, not %v", got, want)
	}
	return got
}

// propagate: what follows is the same in both, but its order; in a conflict the plain one takes over what the engine says, if that is right.
func (w *twin) propagate() bool {
	w.t.Helper()
	w.calls = append(w.calls, "Propagate")
	ahead, was := len(w.p.trail), w.p.conflict
	got, want := w.e.Propagate(), w.p.propagate()
	if got != want {
		w.fail("%v, not %v", got, want)
	}
	trail := w.e.Trail()
	if len(trail) < ahead || was && len(trail) != ahead || !slices.Equal(trail[:ahead], w.p.trail[:ahead]) {
		w.fail("the trail %v does not go on %v", trail, w.p.trail[:ahead])
	}
	if got && !slices.Equal(sorted(trail), sorted(w.p.trail)) {
		w.fail("the trail %v, not %v", trail, w.p.trail)
	}
	if !was {
		w.p.trail, w.p.levels, w.p.kept = w.p.trail[:ahead], w.p.levels[:ahead], w.p.kept[:ahead]
		for _, l := range trail[ahead:] {
			w.p.push(l, len(w.p.clauses))
		}
	}
	return got
}

func sorted(list []int) []int {
	out := slices.Clone(list)
	slices.Sort(out)
	return out
}

// look: all looks of the engine say what the plain one does.
func (w *twin) look() {
	w.t.Helper()
	e, p := w.e, &w.p
	if e.Vars() != p.vars || e.Clauses() != len(p.clauses) || e.Level() != p.level {
		w.fail("%d variables, %d clauses, level %d, not %d, %d, %d", e.Vars(), e.Clauses(), e.Level(), p.vars, len(p.clauses), p.level)
	}
	if !slices.Equal(e.Trail(), p.trail) {
		w.fail("the trail %v, not %v", e.Trail(), p.trail)
	}
	for v := -p.vars - 1; v <= p.vars+1; v++ {
		w.lookAt(v)
	}
	w.lookAtConflict()
}

func (w *twin) lookAt(v int) {
	w.t.Helper()
	e, p := w.e, &w.p
	value, level, at := 0, -1, -1
	if v >= 1 && v <= p.vars && p.value(v) != 0 {
		value = p.value(v)
		at = slices.Index(p.trail, v*value)
		level = p.levels[at]
	}
	if e.Value(v) != value || e.LevelOf(v) != level {
		w.fail("the variable %d: %d at %d, not %d at %d", v, e.Value(v), e.LevelOf(v), value, level)
	}
	reason := e.Reason(v)
	if at < 0 || p.kept[at] < 0 {
		if reason != nil {
			w.fail("the variable %d: the reason %v, not nil", v, reason)
		}
		return
	}
	if !slices.ContainsFunc(p.clauses[:p.kept[at]], func(c []int) bool { return slices.Equal(c, reason) }) {
		w.fail("the variable %d: the reason %v is no clause that was kept then", v, reason)
	}
	for _, l := range reason {
		if l != v*value && !slices.Contains(p.trail[:at], -l) {
			w.fail("the variable %d: in the reason %v the literal %d was not false", v, reason, l)
		}
	}
	if !slices.Contains(reason, v*value) {
		w.fail("the variable %d: the reason %v has not the literal", v, reason)
	}
}

func (w *twin) lookAtConflict() {
	w.t.Helper()
	c := w.e.Conflict()
	if !w.p.conflict {
		if len(c) != 0 {
			w.fail("the clause %v of no conflict", c)
		}
		return
	}
	if !slices.ContainsFunc(w.p.clauses, func(o []int) bool { return slices.Equal(o, c) }) || !w.p.isFalse(c) {
		w.fail("the conflict's clause %v is none that is false", c)
	}
}

// follow: of all assignments those that make the clauses and decisions true have the engine's values.
func (w *twin) follow() {
	w.t.Helper()
	for bits := range 1 << w.p.vars {
		holds := func(l int) bool { return bits>>(abs(l)-1)&1 == 1 == (l > 0) }
		model := true
		for _, c := range w.p.clauses {
			model = model && slices.ContainsFunc(c, holds)
		}
		for k, l := range w.p.trail {
			model = model && (w.p.kept[k] >= 0 || holds(l))
		}
		if model && w.e.Conflict() != nil {
			w.fail("a conflict, though %b makes all true", bits)
		}
		for v := 1; model && v <= w.p.vars; v++ {
			if x := w.e.Value(v); x != 0 && !holds(v*x) {
				w.fail("%d has the value %d, though %b makes all true", v, x, bits)
			}
		}
	}
}
