package prop

import (
	"math"
	"slices"
	"testing"

	"cadence/api"
)

func TestExamples(t *testing.T) {
	w := newTwin(t, 3)
	w.add(1, 2)
	w.add(-1, 3)
	if !w.propagate() || len(w.e.Trail()) != 0 {
		t.Fatal("a value follows from nothing")
	}
	w.decide(-2)
	if !w.propagate() || w.e.Value(1) != 1 || w.e.Value(3) != 1 || w.e.LevelOf(3) != 1 {
		t.Fatal("1 and 3 do not follow")
	}
	if !slices.Equal(w.e.Trail(), []int{-2, 1, 3}) || !slices.Equal(w.e.Reason(3), []int{-1, 3}) || w.e.Reason(2) != nil {
		t.Fatalf("the trail %v, the reasons %v of 3 and %v of 2", w.e.Trail(), w.e.Reason(3), w.e.Reason(2))
	}
	if w.e.Decide(2) != api.ErrSet || w.e.Decide(4) != api.ErrLit || w.add(-3, -1) != api.OK {
		t.Fatal("a wrong error")
	}
	if w.propagate() || !slices.Equal(w.e.Conflict(), []int{-3, -1}) || w.e.Decide(3) != api.ErrConflict {
		t.Fatalf("no conflict: %v", w.e.Conflict())
	}
	if w.back(0) != api.OK || len(w.e.Trail()) != 0 || !w.propagate() {
		t.Fatal("a value, or a conflict, behind the way back")
	}
	w.add()
	for range 3 {
		if w.propagate() || w.e.Back(1) != api.ErrLevel || w.e.Back(0) != api.OK {
			t.Fatal("an empty clause is no conflict for ever")
		}
	}
	if e, bad := New(-1); e != nil || bad != api.ErrVars {
		t.Fatal("New(-1)")
	}
}

// TestNew: P301.
func TestNew(t *testing.T) {
	for _, vars := range []int{0, 1, 2, 17, api.MaxVars - 1, api.MaxVars} {
		e, bad := New(vars)
		if bad != api.OK || e == nil {
			t.Fatalf("New(%d): %v", vars, bad)
		}
		if e.Vars() != vars || e.Clauses() != 0 || e.Level() != 0 || len(e.Trail()) != 0 || e.Conflict() != nil {
			t.Errorf("New(%d) is not empty", vars)
		}
		if !e.Propagate() || len(e.Trail()) != 0 {
			t.Errorf("New(%d): something follows", vars)
		}
		for _, l := range []int{vars + 1, -vars - 1} {
			if e.Add(l) != api.ErrLit || e.Decide(l) != api.ErrLit || e.Value(l) != 0 || e.LevelOf(l) != -1 {
				t.Errorf("New(%d) has %d", vars, l)
			}
		}
	}
	for _, vars := range []int{-1, -2, api.MaxVars + 1, -api.MaxVars, math.MinInt, math.MaxInt, math.MinInt32, math.MaxInt32, 1 << 32} {
		if e, bad := New(vars); e != nil || bad != api.ErrVars {
			t.Errorf("New(%d): %v, %v", vars, e, bad)
		}
	}
}

// TestNoVariables: P301 to P306 where there is none.
func TestNoVariables(t *testing.T) {
	w := newTwin(t, 0)
	for _, l := range append([]int{1, -1}, farLiterals...) {
		if w.add(l) != api.ErrLit || w.decide(l) != api.ErrLit {
			t.Errorf("%d is a literal", l)
		}
	}
	w.look()
	if !w.propagate() || w.back(0) != api.OK || w.back(1) != api.ErrLevel {
		t.Error("an engine of nothing")
	}
	if w.add() != api.OK || w.propagate() || w.e.Clauses() != 1 {
		t.Error("the empty clause over nothing")
	}
	w.look()
}

// TestGreatestVariable: P303 to P306 of the last of MaxVars variables, and P304 through all of them.
func TestGreatestVariable(t *testing.T) {
	e, _ := New(api.MaxVars)
	if e.Add(api.MaxVars) != api.OK || e.Add(-api.MaxVars, 1-api.MaxVars) != api.OK || !e.Propagate() {
		t.Fatal("the last two variables")
	}
	if e.Value(api.MaxVars) != 1 || e.LevelOf(api.MaxVars) != 0 || e.Value(api.MaxVars-1) != -1 || e.Value(api.MaxVars+1) != 0 {
		t.Fatal("their values")
	}
	if !slices.Equal(e.Reason(api.MaxVars-1), []int{-api.MaxVars, 1 - api.MaxVars}) || e.Decide(-api.MaxVars) != api.ErrSet {
		t.Fatal("their reasons")
	}
	for v := 1; v < api.MaxVars-2; v++ {
		if bad := e.Add(-v, v+1); bad != api.OK {
			t.Fatal(v, bad)
		}
	}
	if e.Decide(1) != api.OK || !e.Propagate() || len(e.Trail()) != api.MaxVars || e.LevelOf(api.MaxVars-2) != 1 {
		t.Fatal("a chain through all variables")
	}
	if e.Back(0) != api.OK || len(e.Trail()) != 2 || e.Decide(2-api.MaxVars) != api.OK || !e.Propagate() {
		t.Fatal("the way back")
	}
	if len(e.Trail()) != api.MaxVars || e.Value(1) != -1 {
		t.Fatal("the chain backward")
	}
}

// TestAddErrors: P302: each error, and that a refused clause is not there.
func TestAddErrors(t *testing.T) {
	w := newTwin(t, 3)
	for _, l := range append([]int{4, -4}, farLiterals...) {
		for _, c := range [][]int{{l}, {1, l}, {l, 1, 2}, {1, 2, 3, l}} {
			if w.add(c...) != api.ErrLit {
				t.Errorf("%v is a clause", c)
			}
		}
	}
	w.propagate()
	w.look()
	if w.e.Clauses() != 0 {
		t.Error("a refused clause is kept")
	}
}

// TestAddLength: P302 at MaxClause literals and beyond; a wrong literal comes first.
func TestAddLength(t *testing.T) {
	e, _ := New(2)
	long := slices.Repeat([]int{1}, api.MaxClause+1)
	if bad := e.Add(long...); bad != api.ErrClause {
		t.Errorf("MaxClause + 1 literals: %v", bad)
	}
	long[api.MaxClause] = 3
	if bad := e.Add(long...); bad != api.ErrLit {
		t.Errorf("MaxClause + 1 literals, the last one wrong: %v", bad)
	}
	if bad := e.Add(slices.Repeat([]int{0}, 2*api.MaxClause)...); bad != api.ErrLit {
		t.Errorf("2 * MaxClause wrong literals: %v", bad)
	}
	if e.Clauses() != 0 || !e.Propagate() || e.Value(1) != 0 {
		t.Error("a refused clause is kept")
	}
	if bad := e.Add(long[:api.MaxClause]...); bad != api.OK || e.Clauses() != 1 {
		t.Errorf("MaxClause literals: %v", bad)
	}
	if !e.Propagate() || e.Value(1) != 1 || len(e.Reason(1)) != api.MaxClause {
		t.Error("a literal MaxClause times is no unit")
	}
}

// TestAddClauses: P302 at MaxClauses clauses and beyond.
func TestAddClauses(t *testing.T) {
	e, _ := New(3)
	for k := range api.MaxClauses {
		if bad := e.Add(-1, 2); bad != api.OK {
			t.Fatalf("clause %d: %v", k, bad)
		}
	}
	if e.Clauses() != api.MaxClauses {
		t.Fatalf("%d clauses", e.Clauses())
	}
	long := slices.Repeat([]int{3}, api.MaxClause+1)
	if e.Add() != api.ErrClauses || e.Add(3) != api.ErrClauses || e.Add(4) != api.ErrLit || e.Add(long...) != api.ErrClause {
		t.Error("one clause more")
	}
	if e.Clauses() != api.MaxClauses || !e.Propagate() || e.Value(3) != 0 {
		t.Error("a refused clause is kept")
	}
	if e.Decide(1) != api.OK || !e.Propagate() || e.Value(2) != 1 || e.Back(0) != api.OK || e.Decide(-2) != api.OK || !e.Propagate() || e.Value(1) != -1 {
		t.Error("what follows from MaxClauses clauses")
	}
	if e.Add() != api.ErrClauses || e.Back(0) != api.OK || e.Add() != api.ErrClauses {
		t.Error("one clause more, later")
	}
}

// TestAddLiterals: P302 at MaxLits literals and beyond; each literal counts as often as it stands.
func TestAddLiterals(t *testing.T) {
	e, _ := New(3)
	long := slices.Repeat([]int{1, 2}, api.MaxClause/2)
	for k := range api.MaxLits/api.MaxClause - 1 {
		if bad := e.Add(long...); bad != api.OK {
			t.Fatalf("clause %d: %v", k, bad)
		}
	}
	if bad := e.Add(long[1:]...); bad != api.OK {
		t.Fatal(bad)
	}
	if bad := e.Add(3, 3); bad != api.ErrClauses {
		t.Errorf("MaxLits + 1 literals: %v", bad)
	}
	if bad := e.Add(long...); bad != api.ErrClauses {
		t.Errorf("MaxLits + MaxClause - 1 literals: %v", bad)
	}
	if bad := e.Add(3); bad != api.OK {
		t.Errorf("MaxLits literals: %v", bad)
	}
	if e.Add(3) != api.ErrClauses || e.Add(0) != api.ErrLit || e.Add(append(long, 1)...) != api.ErrClause {
		t.Error("beyond MaxLits literals")
	}
	if !e.Propagate() || e.Value(3) != 1 || e.Decide(-1) != api.OK || !e.Propagate() || e.Value(2) != 1 {
		t.Error("what follows from MaxLits literals")
	}
	if e.Clauses() != api.MaxLits/api.MaxClause+1 || e.Add() != api.OK || e.Propagate() {
		t.Error("the empty clause beside MaxLits literals")
	}
}

// TestAddTurnsNothing: P302: no value turns by Add, and no conflict comes or goes, at level 0, above it, and in a conflict.
func TestAddTurnsNothing(t *testing.T) {
	w := newTwin(t, 4)
	quiet := func(c ...int) {
		t.Helper()
		trail, conflict, level := w.e.Trail(), w.e.Conflict(), w.e.Level()
		w.add(c...)
		if !slices.Equal(w.e.Trail(), trail) || !slices.Equal(w.e.Conflict(), conflict) || w.e.Level() != level {
			t.Fatalf("Add(%v) turned something", c)
		}
		w.look()
	}
	quiet(1)
	quiet(-1, -2)
	w.propagate()
	quiet(2, 3)
	quiet(1)
	w.decide(4)
	quiet(-4, 3, 2)
	quiet(-4, -3)
	if w.propagate() {
		t.Fatal("no conflict at level 1")
	}
	quiet(3, -4)
	quiet(-3)
	quiet()
	if w.propagate() || w.e.Decide(3) != api.ErrConflict {
		t.Fatal("the conflict is gone")
	}
	w.back(0)
	quiet(3, 4)
	if w.propagate() || w.e.Level() != 0 {
		t.Fatal("no conflict at level 0")
	}
	quiet(1, 2)
	quiet()
}

// TestEmptyClauseWaits: P302 to P304: an empty clause is a conflict by Propagate alone.
func TestEmptyClauseWaits(t *testing.T) {
	w := newTwin(t, 2)
	w.add()
	if w.decide(1) != api.OK || w.decide(-2) != api.OK || w.e.Conflict() != nil {
		t.Fatal("a conflict ahead of Propagate")
	}
	if w.propagate() || len(w.e.Conflict()) != 0 || w.decide(2) != api.ErrConflict {
		t.Fatal("no conflict")
	}
	if w.back(1) != api.OK || w.decide(2) != api.OK || w.propagate() {
		t.Fatal("no conflict again")
	}
	if w.back(0) != api.OK || w.decide(2) != api.OK || w.back(0) != api.OK || w.propagate() || w.decide(1) != api.ErrConflict {
		t.Fatal("no conflict at level 0")
	}
}

// TestDecide: P303.
func TestDecide(t *testing.T) {
	w := newTwin(t, 5)
	w.add(-1, 2)
	for _, l := range []int{1, -3} {
		ahead := w.e.Level()
		if w.decide(l) != api.OK || w.e.Level() != ahead+1 || w.e.LevelOf(abs(l)) != ahead+1 {
			t.Fatalf("Decide(%d)", l)
		}
		w.look()
		w.propagate()
	}
	for _, l := range []int{1, -1, 2, -2, 3, -3} {
		if w.decide(l) != api.ErrSet {
			t.Errorf("Decide(%d), though it has a value", l)
		}
	}
	w.look()
	w.add(-2, 3)
	w.propagate()
	for _, l := range append([]int{6, -6}, farLiterals...) {
		if w.decide(l) != api.ErrLit {
			t.Errorf("Decide(%d) in a conflict", l)
		}
	}
	for v := 1; v <= 5; v++ {
		if w.decide(v) != api.ErrConflict || w.decide(-v) != api.ErrConflict {
			t.Errorf("Decide(%d) in a conflict", v)
		}
	}
	w.look()
}

// TestDecideErrors: P303: wrong literals ahead of a conflict and without one.
func TestDecideErrors(t *testing.T) {
	w := newTwin(t, 2)
	for _, l := range append([]int{3, -3}, farLiterals...) {
		if w.decide(l) != api.ErrLit {
			t.Errorf("Decide(%d)", l)
		}
	}
	w.look()
	w.decide(1)
	w.decide(2)
	for _, l := range append([]int{3, -3}, farLiterals...) {
		if w.decide(l) != api.ErrLit {
			t.Errorf("Decide(%d) at level 2", l)
		}
	}
	w.look()
}

// TestBack: P305.
func TestBack(t *testing.T) {
	w := newTwin(t, 6)
	w.add(-1, 2)
	w.add(-3, 4)
	w.add(6)
	w.propagate()
	for _, l := range []int{1, 3, 5} {
		w.decide(l)
		w.propagate()
	}
	for _, level := range []int{-1, 4, 5, math.MinInt, math.MaxInt, math.MinInt32, math.MaxInt32, 1 << 32, 1<<32 + 1, -1 << 32} {
		if w.back(level) != api.ErrLevel {
			t.Errorf("Back(%d) at level 3", level)
		}
	}
	w.look()
	trail := w.e.Trail()
	if w.back(3) != api.OK || !slices.Equal(w.e.Trail(), trail) {
		t.Error("Back to the level as it stands")
	}
	if w.back(1) != api.OK || !slices.Equal(w.e.Trail(), []int{6, 1, 2}) || w.e.Level() != 1 || w.back(2) != api.ErrLevel {
		t.Errorf("Back(1): %v", w.e.Trail())
	}
	w.look()
	if w.back(0) != api.OK || !slices.Equal(w.e.Trail(), []int{6}) || w.e.Level() != 0 {
		t.Errorf("Back(0): %v", w.e.Trail())
	}
	w.look()
	if w.back(0) != api.OK || w.back(1) != api.ErrLevel || w.back(-1) != api.ErrLevel || !w.propagate() {
		t.Error("Back at level 0")
	}
}

// TestBackInConflict: P305: the conflict goes with its level, not by Back to the level as it stands, and never at level 0.
func TestBackInConflict(t *testing.T) {
	w := newTwin(t, 4)
	w.add(-1, -2, 3)
	w.add(-1, -2, -3)
	w.decide(1)
	w.propagate()
	w.decide(2)
	for range 2 {
		if w.propagate() || w.back(2) != api.OK || w.back(3) != api.ErrLevel || w.back(-1) != api.ErrLevel {
			t.Fatal("no conflict")
		}
		if len(w.e.Conflict()) != 3 || w.decide(4) != api.ErrConflict {
			t.Fatal("the conflict is gone")
		}
		w.look()
	}
	if w.back(1) != api.OK || w.e.Conflict() != nil || w.decide(4) != api.OK || !w.propagate() {
		t.Fatal("the conflict lasts")
	}
	w.look()
	w.back(0)
	w.add(4, 1)
	w.add(4, -1)
	w.add(-4, 1)
	w.add(-4, -1)
	w.decide(1)
	if w.propagate() {
		t.Fatal("no conflict")
	}
	w.back(0)
	w.add(-1)
	for range 2 {
		if w.propagate() || w.back(0) != api.OK || w.e.Conflict() == nil || w.decide(2) != api.ErrConflict {
			t.Fatal("a conflict at level 0 does not last")
		}
		w.look()
	}
}
