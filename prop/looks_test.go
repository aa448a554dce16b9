package prop

import (
	"slices"
	"testing"

	"cadence/api"
)

// chain: an engine at level 2 with values by decisions and by clauses, some of which have a literal twice.
func chain(t *testing.T) *twin {
	t.Helper()
	w := newTwin(t, 8)
	w.add(-7, -7)
	w.add(-1, 2)
	w.add(3, -2, 3, 7)
	w.add(-4, 5, -3, 5)
	w.propagate()
	w.decide(1)
	w.propagate()
	w.decide(4)
	w.propagate()
	return w
}

// TestLooks: P306 of all variables, those that there are not among them.
func TestLooks(t *testing.T) {
	w := chain(t)
	w.look()
	for v, want := range []struct{ value, level int }{{0, -1}, {1, 1}, {1, 1}, {1, 1}, {1, 2}, {1, 2}, {0, -1}, {-1, 0}, {0, -1}, {0, -1}} {
		if w.e.Value(v) != want.value || w.e.LevelOf(v) != want.level {
			t.Errorf("the variable %d: %d at %d", v, w.e.Value(v), w.e.LevelOf(v))
		}
	}
	for _, v := range append([]int{9, -7, -8, -9}, farVariables...) {
		if w.e.Value(v) != 0 || w.e.LevelOf(v) != -1 || w.e.Reason(v) != nil {
			t.Errorf("%d is a variable", v)
		}
	}
	if !slices.Equal(w.e.Trail(), []int{-7, 1, 2, 3, 4, 5}) {
		t.Errorf("the trail %v", w.e.Trail())
	}
	if w.e.Vars() != 8 || w.e.Clauses() != 4 || w.e.Level() != 2 {
		t.Errorf("%d variables, %d clauses, level %d", w.e.Vars(), w.e.Clauses(), w.e.Level())
	}
	w.back(0)
	if w.e.Value(1) != 0 || w.e.LevelOf(1) != -1 || w.e.LevelOf(7) != 0 || w.e.Level() != 0 {
		t.Error("behind the way back")
	}
}

// TestReason: P307: the clauses as they were handed in, and nil.
func TestReason(t *testing.T) {
	w := chain(t)
	want := [][]int{1: nil, 2: {-1, 2}, 3: {3, -2, 3, 7}, 4: nil, 5: {-4, 5, -3, 5}, 6: nil, 7: {-7, -7}, 8: nil}
	for v := 1; v <= 8; v++ {
		if got := w.e.Reason(v); !slices.Equal(got, want[v]) || want[v] == nil && got != nil {
			t.Errorf("the reason %v of %d", got, v)
		}
	}
	w.back(1)
	if w.e.Reason(5) != nil || w.e.Reason(4) != nil || !slices.Equal(w.e.Reason(2), want[2]) {
		t.Error("behind the way back")
	}
	w.decide(5)
	w.propagate()
	if w.e.Reason(5) != nil {
		t.Errorf("the reason %v of a decision that followed ahead", w.e.Reason(5))
	}
	w.look()
}

// TestReasonLater: P307: a decision has no reason, and a value keeps its own, whatever clauses come.
func TestReasonLater(t *testing.T) {
	w := newTwin(t, 3)
	w.add(-1, 2, 2)
	w.decide(1)
	w.propagate()
	w.add(2)
	w.add(1)
	w.add(-1, 2)
	w.propagate()
	w.look()
	if w.e.Reason(1) != nil || !slices.Equal(w.e.Reason(2), []int{-1, 2, 2}) {
		t.Errorf("the reasons %v and %v", w.e.Reason(1), w.e.Reason(2))
	}
}

// TestConflict: P307: which clause is told, of a conflict at a level, at level 0, and of none.
func TestConflict(t *testing.T) {
	w := newTwin(t, 3)
	w.add(-2, -1, -2)
	w.add(2, 3)
	if w.e.Conflict() != nil {
		t.Error("a clause of no conflict")
	}
	w.decide(1)
	w.decide(2)
	if w.e.Conflict() != nil {
		t.Error("a clause ahead of Propagate")
	}
	w.propagate()
	if !slices.Equal(w.e.Conflict(), []int{-2, -1, -2}) || w.e.Reason(2) != nil {
		t.Errorf("the clause %v", w.e.Conflict())
	}
	w.look()
	w.back(0)
	if w.e.Conflict() != nil {
		t.Error("a clause behind the way back")
	}
	w.add(-3)
	w.add(1)
	w.propagate()
	if !w.p.isFalse(w.e.Conflict()) || len(w.e.Conflict()) == 0 {
		t.Errorf("the clause %v at level 0", w.e.Conflict())
	}
	w.look()
	w.follow()
}

// TestAnswersAreTheCallers: P306, P307 and rule 4: what is handed out is written over with its spare room, and grown, and nothing changes.
func TestAnswersAreTheCallers(t *testing.T) {
	w := chain(t)
	w.add(-5, -4, -1)
	w.propagate()
	ask := map[string]func() []int{
		"Trail":    w.e.Trail,
		"Reason":   func() []int { return w.e.Reason(3) },
		"Reason 5": func() []int { return w.e.Reason(5) },
		"Conflict": w.e.Conflict,
	}
	for name, answer := range ask {
		first, want := answer(), slices.Clone(answer())
		if len(want) == 0 {
			t.Fatalf("%s is empty", name)
		}
		second := answer()
		grown := append(first, 6, 6, 6)
		for _, list := range [][]int{first[:cap(first)], grown[:cap(grown)]} {
			for k := range list {
				list[k] = -6
			}
		}
		if !slices.Equal(second, want) || !slices.Equal(answer(), want) {
			t.Errorf("%s: written over, it shows", name)
		}
		w.look()
	}
	w.back(1)
	w.look()
	w.add(6, -1)
	w.propagate()
	w.look()
	w.follow()
}

// TestSpareRoom: rule 4: the trail that is handed out shares no room with what comes later.
func TestSpareRoom(t *testing.T) {
	e, _ := New(40)
	var trails [][]int
	for v := 1; v <= 40; v++ {
		e.Decide(v)
		trails = append(trails, e.Trail())
		for _, trail := range trails {
			room := trail[len(trail):cap(trail)]
			for k := range room {
				room[k] = -99
			}
		}
	}
	for n, trail := range trails {
		for k, l := range trail {
			if len(trail) != n+1 || l != k+1 {
				t.Fatalf("the trail of level %d: %v", n+1, trail)
			}
		}
	}
}

// TestArgumentsStay: P302 and rule 4: a list that is handed to Add is not changed, its spare room neither, and not kept.
func TestArgumentsStay(t *testing.T) {
	w := newTwin(t, 4)
	room := []int{-1, 2, -3, 91, 92, 93}
	c := room[:3:6]
	if w.add(c...) != api.OK {
		t.Fatal("Add")
	}
	w.decide(1)
	w.decide(3)
	w.propagate()
	if !slices.Equal(room, []int{-1, 2, -3, 91, 92, 93}) {
		t.Fatalf("what was handed in is changed: %v", room)
	}
	for k := range room {
		room[k] = 4
	}
	if !slices.Equal(w.e.Reason(2), []int{-1, 2, -3}) {
		t.Fatalf("what was handed in is kept: %v", w.e.Reason(2))
	}
	w.back(0)
	w.decide(-2)
	w.decide(1)
	w.propagate()
	w.look()
	if w.e.Value(4) != 0 || w.e.Value(3) != -1 {
		t.Fatalf("what was handed in is kept: %v", w.e.Trail())
	}
}
