package run

import (
	"math"
	"slices"
	"testing"

	"cadence/api"
)

// differIs: what Differ answers, either way round.
func differIs(t testing.TB, x, y []api.Event, place int, want bool) {
	t.Helper()
	for range 2 {
		if k, is := Differ(x, y); k != place || is != want {
			t.Fatalf("%v and %v: %d, %v, not %d, %v", x, y, k, is, place, want)
		}
		x, y = y, x
	}
}

// TestDiffer: traces that are the same, unlike in each field alone, and one the beginning of the other (P1704).
func TestDiffer(t *testing.T) {
	type trace = []api.Event
	a, b, c := api.Event{Kind: api.EvLoad, A: 2, B: 1}, api.Event{Kind: api.EvBranch, A: 1}, api.Event{Kind: api.EvRelease, A: 7}
	differIs(t, nil, nil, 0, false)
	differIs(t, nil, trace{}, 0, false)
	differIs(t, trace{a}, nil, 0, true)
	differIs(t, trace{a}, trace{}, 0, true)
	differIs(t, trace{{}}, nil, 0, true) // an event without anything is one
	differIs(t, trace{{}}, trace{{}}, 0, false)
	differIs(t, trace{{}}, trace{{}, {}}, 1, true)
	differIs(t, trace{a}, trace{a}, 0, false)
	differIs(t, trace{a, b, c}, trace{a, b, c}, 0, false)
	differIs(t, trace{a, b, c}, trace{a, b}, 2, true)
	differIs(t, trace{a, b, c}, trace{a}, 1, true)
	differIs(t, trace{a, b, c}, nil, 0, true)
	differIs(t, trace{a, b, c}, trace{b, b, c}, 0, true)
	differIs(t, trace{a, b, c}, trace{a, a, c}, 1, true)
	differIs(t, trace{a, b, c}, trace{a, b, b}, 2, true)
	differIs(t, trace{a, b, c}, trace{a, c, b}, 1, true) // the first place of two
	differIs(t, trace{a, b, c}, trace{b, a}, 0, true)
	differIs(t, trace{a, b, c}, trace{a, a}, 1, true)
	differIs(t, trace{a, b, c, a, b, c}, trace{a, b, a, a, b}, 2, true)
	differIs(t, trace{b, a}, trace{a}, 0, true)
	for _, e := range []api.Event{a, b, c, {}, {Kind: api.EvStore, A: 3, B: 4}, {Kind: api.EvDivide, A: 9, B: 0}, {Kind: -1, A: math.MaxUint64, B: math.MaxUint64}, {Kind: math.MaxInt}, {Kind: math.MinInt}} {
		for _, o := range []api.Event{{Kind: e.Kind + 1, A: e.A, B: e.B}, {Kind: e.Kind, A: e.A + 1, B: e.B}, {Kind: e.Kind, A: e.A, B: e.B + 1}, {Kind: e.Kind, A: e.A ^ 1<<63, B: e.B}, {Kind: e.Kind, A: e.A, B: e.B ^ 1<<63}, {Kind: e.Kind ^ 1<<40, A: e.A, B: e.B}, {Kind: e.Kind, A: e.B + 1, B: e.A}} {
			differIs(t, trace{e}, trace{o}, 0, true)
			differIs(t, trace{a, b, e, c}, trace{a, b, o, c}, 2, true)
			differIs(t, trace{a, e, e}, trace{a, e, o}, 2, true)
			differIs(t, trace{a, e}, trace{a, o, e}, 1, true)
		}
		differIs(t, trace{a, e, b}, trace{a, e, b}, 0, false)
	}
}

// TestDifferOfMany: many traces of a few kinds of events, against the plain reading (P1704).
func TestDifferOfMany(t *testing.T) {
	k := picker(1704)
	anyTrace := func(n int) []api.Event {
		var list []api.Event
		for range n {
			list = append(list, api.Event{Kind: k.below(3), A: uint64(k.below(2)), B: uint64(k.below(2))})
		}
		return list
	}
	counts := map[bool]int{}
	for range 5000 {
		x := anyTrace(k.below(6))
		y := slices.Clone(x)
		for range k.below(3) {
			if i := k.below(len(y) + 1); i < len(y) {
				y[i] = anyTrace(1)[0]
			} else {
				y = append(y, anyTrace(1)...)
			}
		}
		if k.below(3) == 0 {
			y = y[:k.below(len(y)+1)]
		}
		place, want := plainDiffer(x, y)
		differIs(t, x, y, place, want)
		counts[want]++
	}
	if counts[true] < 500 || counts[false] < 500 {
		t.Fatal("too few: ", counts)
	}
}

// TestLongTraces: unlike at the last of many places (P1704).
func TestLongTraces(t *testing.T) {
	x := make([]api.Event, 100000)
	y := slices.Clone(x)
	differIs(t, x, y, 0, false)
	differIs(t, x, append(y, api.Event{}), 100000, true)
	y[99999].B = 1
	differIs(t, x, y, 99999, true)
	y[50000].A = 1
	differIs(t, x, y, 50000, true)
}
