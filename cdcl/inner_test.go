package cdcl

import (
	"container/heap"
	"slices"
	"testing"

	"cadence/api"
	"cadence/rup"
)

// TestPauses: the closure tells the numbers of its remark, and each one its own.
func TestPauses(t *testing.T) {
	want := []int64{1, 1, 2, 1, 1, 2, 4, 1, 1, 2, 1, 1, 2, 4, 8, 1, 1, 2, 1, 1, 2, 4, 1, 1, 2, 1, 1, 2, 4, 8, 16, 1}
	a, b := pauses(), pauses()
	for i, w := range want {
		if got := a(); got != w*firstPause {
			t.Errorf("the pause %d: %d, not %d", i, got, w*firstPause)
		}
	}
	if b() != firstPause || b() != firstPause || b() != 2*firstPause {
		t.Error("two of them share something")
	}
}

// TestOrder: the heap hands out the variables by falling score, those of one score by their turns, also when scores have grown, and have been scaled.
func TestOrder(t *testing.T) {
	p := picker(73)
	for range 200 {
		vars := 1 + p.below(40)
		s := newSolver(vars)
		for range p.below(100) {
			s.bump(&s.variables[1+p.below(vars)])
			if p.below(3) == 0 {
				s.age()
			}
			if p.below(30) == 0 {
				s.scale()
			}
		}
		var last *variable
		for range vars {
			v := s.next()
			if last != nil && (v.score > last.score || v.score == last.score && v.turn < last.turn) {
				t.Fatalf("%v behind %v", v, last)
			}
			if v.place != -1 {
				t.Fatal("it still has a place")
			}
			last = v
		}
		if s.next() != nil || s.order.Len() != 0 {
			t.Fatal("more than there are")
		}
	}
}

// TestOrderPlaces: each variable of the heap knows its place.
func TestOrderPlaces(t *testing.T) {
	p := picker(79)
	s := newSolver(30)
	for range 2000 {
		v := &s.variables[1+p.below(30)]
		switch {
		case v.place < 0:
			heap.Push(&s.order, v)
		case p.below(3) == 0:
			s.next()
		default:
			s.bump(v)
		}
		for i, v := range s.order {
			if v.place != i {
				t.Fatalf("%d says that it is at %d, not %d", v.number, v.place, i)
			}
		}
	}
}

// TestScale: scores never leave their range, and the weight never goes.
func TestScale(t *testing.T) {
	s := newSolver(3)
	for range 5000 {
		s.bump(&s.variables[1])
		s.age()
		if s.variables[1].score > 2*mostScore || s.weight < firstWeight || s.weight > mostScore {
			t.Fatalf("the score %d, the weight %d", s.variables[1].score, s.weight)
		}
	}
	if s.variables[1].score == 0 || s.variables[2].score != 0 {
		t.Error("the scores")
	}
}

// rightInside: what must hold between two calls: no level stands, all values are told, every clause that is not settled is watched by two literals, and each lemma follows from the clauses and its why alone.
func rightInside(t *testing.T, s *Solver) {
	t.Helper()
	if s.level() != 0 || len(s.marked) != 0 {
		t.Fatal("a level, or a mark, stands")
	}
	for i := range s.variables {
		if v := &s.variables[i]; v.mark != fresh || i > 0 && s.values[2*i] == 0 && (v.place < 0 || v.reason != nil) {
			t.Fatalf("the variable %d: %v", i, v)
		}
	}
	for i, v := range s.order {
		if v.place != i {
			t.Fatalf("%d says that it is at %d, not %d", v.number, v.place, i)
		}
	}
	watched := 0
	for l, list := range s.watch {
		for _, w := range list {
			c := w.clause
			if c.lits[0] != code(l) && c.lits[1] != code(l) || !slices.Contains(c.lits, w.other) || w.other == code(l) || c.lemma != nil && c.lemma.gone {
				t.Fatalf("%v watches %v", l, c.told())
			}
			for _, o := range c.lits {
				if slices.Contains(c.lits, o^1) {
					t.Fatalf("%v is always true", c.told())
				}
			}
			watched++
		}
	}
	if watched%2 != 0 || watched < 2*len(s.lemmas) {
		t.Fatalf("%d watch", watched)
	}
	for _, m := range s.cone(s.lemmas) {
		f := s.Formula()
		for _, w := range m.why {
			if w.number >= m.number {
				t.Fatal("a lemma hangs on a later one")
			}
			f.Clauses = append(f.Clauses, w.told())
		}
		if ok, bad := rup.Follows(f, m.told()); !ok || bad != api.OK {
			t.Fatalf("%v does not follow from its why", m.told())
		}
	}
}

// TestInside: behind each call of many.
func TestInside(t *testing.T) {
	p := picker(83)
	for range 150 {
		vars := 5 + p.below(25)
		s := made(t, p.three(vars, 4*vars))
		for range 5 {
			asked(t, s, p.literals(vars, 4), int64(p.below(40)-1))
			rightInside(t, s)
			s.Add(p.clause(vars))
			rightInside(t, s)
		}
	}
}

// TestForget: a long search forgets now and then, each time with more room for the next.
func TestForget(t *testing.T) {
	s := made(t, pigeons(7))
	q := &quest{Solver: s, budget: -1, pause: pauses()}
	forgot := 0
	for q.kind == 0 {
		ahead, room := len(s.lemmas), s.room
		q.advance()
		if s.room == room {
			continue
		}
		forgot++
		if ahead <= room || s.room != firstRoom+forgot*moreRoom || len(s.lemmas) >= ahead || len(s.lemmas) < ahead/2 {
			t.Fatalf("%d of %d are left, there is room for %d", len(s.lemmas), ahead, s.room)
		}
	}
	if forgot == 0 || q.kind != api.Unsat {
		t.Errorf("forgot %d times, Kind %d", forgot, q.kind)
	}
}

// worstHalf: what forget must forget, by its remarks.
func worstHalf(s *Solver) []*lemma {
	reasons := map[*lemma]int{}
	for _, l := range s.trail {
		if c := s.of(l).reason; c != nil && c.lemma != nil {
			reasons[c.lemma] = 1
		}
	}
	var all []*lemma
	for _, m := range s.lemmas {
		if m.glue > bestGlue && reasons[m] == 0 {
			all = append(all, m)
		}
	}
	slices.SortStableFunc(all, func(a, b *lemma) int { return a.used - b.used })
	slices.SortStableFunc(all, func(a, b *lemma) int { return b.glue - a.glue })
	return all[:len(all)/2]
}

// TestForgetOften: where there is no room it forgets at once, at any level: the worse half, but no reason and none of few levels; and the search is right all the same.
func TestForgetOften(t *testing.T) {
	p := picker(103)
	forgot, reasons := 0, 0
	for range 120 {
		f := p.three(25, 107)
		s := made(t, f)
		q := &quest{Solver: s, budget: -1, pause: pauses()}
		for q.kind == 0 {
			q.advance()
			if q.kind != 0 || p.below(8) > 0 {
				continue
			}
			gone := worstHalf(s)
			left := len(s.lemmas) - len(gone)
			s.room = -moreRoom
			s.forget()
			forgot += len(gone)
			if len(s.lemmas) != left || slices.ContainsFunc(gone, func(m *lemma) bool { return !m.gone }) || slices.ContainsFunc(s.lemmas, func(m *lemma) bool { return m.gone }) {
				t.Fatal("other lemmas are forgotten")
			}
			for _, l := range s.trail {
				if c := s.of(l).reason; c != nil && c.lemma != nil && len(c.lits) > 1 {
					reasons++
				}
			}
			if !slices.IsSortedFunc(s.lemmas, func(a, b *lemma) int { return a.number - b.number }) {
				t.Fatal("they are out of order")
			}
		}
		if q.kind != kindOf(t, f, nil) {
			t.Fatalf("Kind %d", q.kind)
		}
		s.back(0)
		rightInside(t, s)
	}
	if forgot < 200 || reasons < 200 {
		t.Errorf("only %d were forgotten, %d were reasons", forgot, reasons)
	}
}

// TestRestart: all choices are taken back, and no assumption, as soon as the pauses tell and there is no conflict.
func TestRestart(t *testing.T) {
	s := made(t, pigeons(7))
	q := &quest{Solver: s, assume: []int{3}, budget: -1, pause: pauses()}
	pause := pauses()
	var next int64
	restarts, atOnce := 0, 0
	for q.kind == 0 {
		left := q.left
		q.advance()
		if q.left <= left {
			continue
		}
		restarts++
		if q.conflicts == next {
			atOnce++
		}
		if s.level() != 1 || !slices.Contains(s.trail, codeOf(3)) || q.conflicts < next {
			t.Fatalf("a restart at %d conflicts, not %d, to level %d", q.conflicts, next, s.level())
		}
		next = q.conflicts + pause()
	}
	if restarts < 5 || atOnce < 3 {
		t.Errorf("only %d restarts, %d of them at once", restarts, atOnce)
	}
}

// TestChosenAgain: a variable is chosen as it was last, but one that is steady always in its way.
func TestChosenAgain(t *testing.T) {
	s := made(t, over(4))
	for _, assume := range [][]int{{1, -2, 3, -4}, {-1, 2, 3, 4}, {1, 2, -3, -4}} {
		x := asked(t, s, assume, -1)
		if y := asked(t, s, nil, -1); !slices.Equal(x.Model, y.Model) {
			t.Errorf("%v behind %v", y.Model, x.Model)
		}
	}
	s.prefer([]int{2, -1})
	asked(t, s, []int{1, -2, 3, 4}, -1)
	if x := asked(t, s, nil, -1); !slices.Equal(x.Model, []int8{-1, 1, 1, 1}) {
		t.Errorf("%v, though 2 and -1 are wanted", x.Model)
	}
}

// TestShort: a lemma has just what it must: of the conflict's level one literal, and none that follows from the others.
func TestShort(t *testing.T) {
	p := picker(89)
	checked, used := 0, 0
	for range 100 {
		s := made(t, p.three(30, 125))
		q := &quest{Solver: s, budget: -1, pause: pauses()}
		for q.kind == 0 {
			ahead, level, weight, conflicts := s.learnt, s.level(), s.weight, q.conflicts
			q.advance()
			if (q.conflicts > conflicts) != (s.weight != weight) {
				t.Fatal("what is used later does not count more")
			}
			if s.learnt == ahead || q.kind != 0 || len(s.trail) == 0 || len(s.lemmas) == 0 {
				continue
			}
			m := s.lemmas[len(s.lemmas)-1]
			if m.number != s.learnt {
				continue
			}
			checked++
			if s.level() >= level || s.of(m.lits[0]).reason != &m.clause || s.values[m.lits[0]] != 1 {
				t.Fatal("a lemma that gives no value at a lower level")
			}
			if at := s.of(m.lits[1]).level; int(at) != s.level() {
				t.Fatalf("it stands at level %d, not %d", s.level(), at)
			}
			levels := map[int32]int{}
			for _, l := range m.lits[1:] {
				levels[s.of(l).level]++
				if s.values[l] != -1 || s.of(l).level == 0 || hangsOn(s, m, l) {
					t.Fatalf("%v has %d, which it need not have", m.told(), literalOf(l))
				}
			}
			if m.glue != 1+len(levels) {
				t.Fatalf("of %d levels, not %d", 1+len(levels), m.glue)
			}
			for _, w := range m.why {
				if w.used == ahead && w.number < ahead {
					used++
				}
			}
		}
	}
	if checked < 500 || used < 300 {
		t.Errorf("only %d were looked at, and %d used", checked, used)
	}
}

// hangsOn: does the value of a literal follow, by reasons and those of others, from the other literals of a lemma?
func hangsOn(s *Solver, m *lemma, l code) bool {
	reason := s.of(l).reason
	return reason != nil && !slices.ContainsFunc(reason.lits, func(o code) bool {
		return o != l^1 && o != l && s.of(o).level > 0 && !slices.Contains(m.lits[1:], o) && !hangsOn(s, m, o)
	})
}

// TestWhy: a lemma's why goes no further than its literals: what gave these their values is not in it.
func TestWhy(t *testing.T) {
	s := made(t, over(4, api.Clause{-2, 3}, api.Clause{-2, -3, 4}, api.Clause{-2, -3, -4}))
	far := s.newLemma([]code{codeOf(-1), codeOf(2)}, nil)
	s.watchBy(&far.clause)
	s.open()
	s.open()
	s.set(codeOf(1), nil)
	conflict := s.propagate()
	if conflict == nil || s.of(codeOf(2)).reason != &far.clause {
		t.Fatal("no conflict by the lemma")
	}
	s.learn(conflict)
	if reason := s.of(codeOf(2)).reason; s.level() != 0 || reason.lemma == nil || len(reason.lits) != 1 || len(reason.lemma.why) != 0 {
		t.Errorf("learnt at level %d: %v", s.level(), reason)
	}
}

// TestLogTells: all that was learnt and still counts is in the log: each lemma that is watched, the values that follow from lemmas, and the end.
func TestLogTells(t *testing.T) {
	p := picker(97)
	for range 60 {
		s := made(t, p.three(30, 120+p.below(20)))
		x := asked(t, s, nil, int64(p.below(60)-1))
		stands := map[string]int{}
		for _, step := range s.Log() {
			stands[rup.Text([]api.Step{{Clause: step.Clause}})] += map[bool]int{true: -1, false: 1}[step.Drop]
		}
		for _, m := range s.lemmas {
			if stands[rup.Text([]api.Step{{Clause: m.told()}})] < 1 {
				t.Fatalf("%v is not in the log", m.told())
			}
		}
		for _, l := range s.trail {
			if c := s.of(l).reason; c != nil && x.Kind != api.Unsat && stands[rup.Text([]api.Step{{Clause: c.told()}})] < 1 {
				t.Fatalf("%d is not in the log", literalOf(l))
			}
		}
		if _, bad := rup.Check(s.Formula(), s.Log()); (bad == api.OK) != (x.Kind == api.Unsat) {
			t.Fatalf("Kind %d, but the log: %v", x.Kind, bad)
		}
	}
}

// TestProofShort: a proof has no more than it hangs on: what was learnt for another question is not in it, and no step behind the empty clause.
func TestProofShort(t *testing.T) {
	f := guarded(pigeons(5))
	g := f.Vars
	f.Vars += 2
	f.Clauses = append(f.Clauses, api.Clause{-g - 1, g + 2})
	s := made(t, f)
	hard := asked(t, s, []int{g}, -1)
	easy := asked(t, s, []int{-g - 2, g + 1}, -1)
	if len(hard.Proof) < 20 || len(easy.Proof) != 1 || len(easy.Proof[0].Clause) != 0 {
		t.Errorf("a proof of %d steps, and one of %d", len(hard.Proof), len(easy.Proof))
	}
	if last := hard.Proof[len(hard.Proof)-1]; last.Drop || len(last.Clause) != 0 {
		t.Errorf("the last step: %v", last)
	}
}

// TestProofStanding: few clauses of a long proof stand at one time, since each is taken away behind its last use.
func TestProofStanding(t *testing.T) {
	x := asked(t, made(t, pigeons(6)), nil, -1)
	adds, standing, most := 0, 0, 0
	for _, s := range x.Proof {
		if s.Drop {
			standing--
		} else {
			standing++
			adds++
		}
		most = max(most, standing)
	}
	if standing < 1 || most > adds*3/4 {
		t.Errorf("%d of %d stand at one time", most, adds)
	}
}
