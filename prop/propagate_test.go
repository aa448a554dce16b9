package prop

import (
	"slices"
	"testing"

	"cadence/api"
)

// TestUnits: P304 of the clauses' shapes: a literal twice, with its opposite, beside literals that are true, false, open.
func TestUnits(t *testing.T) {
	cases := []struct {
		name   string
		clause []int
		values []int // what holds behind Propagate, of the decisions 1 and -2 over 4 variables; nil: a conflict
	}{
		{"one open literal", []int{3}, []int{1, -2, 3}},
		{"one twice", []int{3, 3}, []int{1, -2, 3}},
		{"one thrice, turned", []int{-3, -3, -3}, []int{1, -2, -3}},
		{"both ways", []int{3, -3}, []int{1, -2}},
		{"both ways and false ones", []int{-1, 3, 2, -3}, []int{1, -2}},
		{"both ways of a decision", []int{1, -1}, []int{1, -2}},
		{"both ways of a decision, and an open one", []int{-1, 3, 1}, []int{1, -2}},
		{"false ones ahead", []int{-1, 2, 3}, []int{1, -2, 3}},
		{"false ones behind", []int{3, 2, -1}, []int{1, -2, 3}},
		{"false ones around, twice each", []int{2, -1, 3, 2, 3, -1}, []int{1, -2, 3}},
		{"two open ones", []int{3, 4}, []int{1, -2}},
		{"two open ones and false ones", []int{-1, 3, 2, 4}, []int{1, -2}},
		{"a true one", []int{1}, []int{1, -2}},
		{"a true one and an open one", []int{3, 1}, []int{1, -2}},
		{"a true one behind false ones", []int{-1, 2, -2}, []int{1, -2}},
		{"a false one", []int{2}, nil},
		{"false ones", []int{-1, 2}, nil},
		{"false ones, twice", []int{2, 2, -1, 2}, nil},
		{"none", []int{}, nil},
	}
	for _, c := range cases {
		for when := range 4 { // ahead of the decisions, between them, behind them, and behind what follows of them
			w := newTwin(t, 4)
			step := func(k int) {
				if k == when {
					w.add(c.clause...)
				}
			}
			step(0)
			w.decide(1)
			step(1)
			w.decide(-2)
			step(2)
			if when == 3 {
				w.propagate()
			}
			step(3)
			if got := w.propagate(); got != (c.values != nil) || got && !slices.Equal(sorted(w.e.Trail()), sorted(c.values)) {
				t.Errorf("%s, %d: %v, %v", c.name, when, got, w.e.Trail())
			}
			w.look()
			w.follow()
		}
	}
}

// TestLevelAsItStands: P304: what follows gets the level as it stands, whatever it hangs on; behind a way back it follows once more, at the lower level.
func TestLevelAsItStands(t *testing.T) {
	late := map[string]func(w *twin){
		"a unit":                                   func(w *twin) { w.add(4) },
		"a clause with a decision of level 1":      func(w *twin) { w.add(-1, 4) },
		"a clause with one of level 0":             func(w *twin) { w.add(-5, 4) },
		"a clause with a literal twice":            func(w *twin) { w.add(4, 4) },
		"a clause that waits for its literal":      func(w *twin) { w.add(-1, -5, 4) },
		"one behind the other":                     func(w *twin) { w.add(6); w.add(-6, -1, 4) },
		"one behind the other, the last one first": func(w *twin) { w.add(-6, 4); w.add(-1, 6) },
	}
	for name, add := range late {
		w := newTwin(t, 7)
		w.add(5)
		w.decide(1)
		w.propagate()
		w.decide(2)
		w.propagate()
		w.decide(3)
		w.propagate()
		add(w)
		for level := 3; level > 0; level-- {
			if w.back(level) != api.OK || !w.propagate() || w.e.Value(4) != 1 || w.e.LevelOf(4) != level {
				t.Errorf("%s: at level %d: %v", name, level, w.e.Trail())
			}
			w.look()
			w.decide(7) // a way up and back again changes nothing
			w.back(level)
			w.look()
		}
		w.back(0)
		w.propagate()
		w.look()
		w.follow()
	}
}

// TestDecisionsWithoutPropagate: P304 where several decisions stand ahead of it: what follows of the first one alone follows once more behind a way back.
func TestDecisionsWithoutPropagate(t *testing.T) {
	w := newTwin(t, 6)
	w.add(-1, 4)
	w.add(-4, 5)
	w.add(-1, -2, 6)
	for _, l := range []int{1, 2, 3} {
		w.decide(l)
	}
	w.propagate()
	for level := 3; level >= 2; level-- {
		w.back(level)
		if !w.propagate() || w.e.LevelOf(4) != level || w.e.LevelOf(5) != level || w.e.LevelOf(6) != level {
			t.Fatalf("level %d: %v", level, w.e.Trail())
		}
		w.look()
	}
	w.back(1)
	w.look()
	if !w.propagate() || w.e.LevelOf(4) != 1 || w.e.LevelOf(5) != 1 || w.e.Value(6) != 0 {
		t.Fatalf("level 1: %v", w.e.Trail())
	}
	w.look()
}

// TestConflictWithoutPropagate: P304 where a conflict cuts short what the first of several decisions does.
func TestConflictWithoutPropagate(t *testing.T) {
	w := newTwin(t, 6)
	w.add(-1, -2)
	w.add(-1, 4)
	w.add(-1, 5)
	w.add(-1, -5, 6)
	w.decide(1)
	w.decide(2)
	w.decide(3)
	for range 2 { // the clause (-1 -2) is false at level 2, too
		if w.propagate() {
			t.Fatal("no conflict")
		}
		w.look()
		w.back(w.e.Level() - 1)
	}
	if !w.propagate() || w.e.Value(2) != -1 || w.e.Value(4) != 1 || w.e.Value(6) != 1 {
		t.Fatalf("behind the way back: %v", w.e.Trail())
	}
	w.look()
}

// TestClauseThatComesFalse: P302, P304, P305 of a clause that is false when it comes, above the levels of its literals, as one that is learnt.
func TestClauseThatComesFalse(t *testing.T) {
	for back := 3; back >= 0; back-- {
		w := newTwin(t, 5)
		for _, l := range []int{1, 2, 3, 4} {
			w.decide(l)
			w.propagate()
		}
		w.add(-1, -3)
		if w.propagate() || !slices.Equal(w.e.Conflict(), []int{-1, -3}) {
			t.Fatal("no conflict")
		}
		w.look()
		w.back(back)
		switch got := w.propagate(); back {
		case 3:
			if got {
				t.Error("Back(3): the clause is still false")
			}
		case 2, 1:
			if !got || w.e.Value(3) != -1 || w.e.LevelOf(3) != back {
				t.Errorf("Back(%d): %v", back, w.e.Trail())
			}
		default:
			if !got || len(w.e.Trail()) != 0 {
				t.Errorf("Back(0): %v", w.e.Trail())
			}
			w.decide(3)
			w.propagate()
		}
		w.look()
	}
}

// TestPropagateAgain: P304: a second call finds nothing more; in a conflict it does nothing.
func TestPropagateAgain(t *testing.T) {
	w := newTwin(t, 4)
	w.add(-1, 2)
	w.add(-2, 3)
	w.decide(1)
	w.propagate()
	trail := w.e.Trail()
	if !w.propagate() || !slices.Equal(w.e.Trail(), trail) {
		t.Error("a second call found more")
	}
	w.add(-3, 4)
	w.add(-3, -4)
	w.propagate()
	trail = w.e.Trail()
	w.add(4)
	if w.propagate() || !slices.Equal(w.e.Trail(), trail) {
		t.Error("it went on in a conflict")
	}
}

// TestLongClause: P304 of a clause of MaxClause literals, each of which becomes false for itself, in their order and against it.
func TestLongClause(t *testing.T) {
	e, _ := New(api.MaxClause)
	all := make([]int, api.MaxClause)
	for k := range all {
		all[k] = k + 1
	}
	whole := slices.Clone(all)
	if bad := e.Add(all...); bad != api.OK {
		t.Fatal(bad)
	}
	for range 2 {
		last := all[api.MaxClause-1]
		for _, v := range all[:api.MaxClause-1] {
			if e.Value(last) != 0 || e.Decide(-v) != api.OK || !e.Propagate() {
				t.Fatalf("at %d of the clause that begins with %d", v, all[0])
			}
		}
		if e.Value(last) != 1 || e.LevelOf(last) != api.MaxClause-1 || !slices.Equal(e.Reason(last), whole) {
			t.Fatalf("the last literal %d does not follow", last)
		}
		e.Back(0)
		slices.Reverse(all)
	}
}

// TestLongWayBack: P304, P305: level by level back from MaxVars - 2 decisions, with a look at what follows at each.
func TestLongWayBack(t *testing.T) {
	const most = api.MaxVars - 2
	e, _ := New(api.MaxVars)
	for v := 1; v <= most; v++ {
		if e.Decide(-v) != api.OK {
			t.Fatal(v)
		}
	}
	e.Add(1, 2, most+1)
	e.Add(most + 2)
	for level := most; level >= 0; level-- {
		if e.Back(level) != api.OK || !e.Propagate() || e.LevelOf(most+2) != level {
			t.Fatalf("level %d: the unit is there since %d", level, e.LevelOf(most+2))
		}
		want := level
		if level < 2 {
			want = -1
		}
		if e.LevelOf(most+1) != want {
			t.Fatalf("level %d: what hangs on level 2 is there since %d", level, e.LevelOf(most+1))
		}
	}
}
