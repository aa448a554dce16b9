package prop

import (
	"math"
	"slices"
	"testing"

	"cadence/api"
)

// TestSequences: P302 to P308 along sequences of calls that are picked by chance: with Propagate behind each call, seldom, and in between; with short and with long clauses.
func TestSequences(t *testing.T) {
	for seed := range 6000 {
		p := picker(seed*7919 + 12345)
		vars := 1 + p.below(7)
		most, often := 1+p.below(5), 1+p.below(6)
		w := newTwin(t, vars)
		for range p.below(3 * vars) {
			w.add(p.clause(vars, most)...)
		}
		for range 10 + p.below(40) {
			oneCall(w, &p, most, often)
			w.look()
		}
		w.follow()
	}
}

// oneCall: any of the calls, most of them right ones.
func oneCall(w *twin, p *picker, most, often int) {
	switch what := p.below(10 + often); {
	case what < 1:
		w.add(p.clause(w.p.vars, most)...)
	case what < 2:
		w.add(append(p.clause(w.p.vars, most), p.literal(w.p.vars), p.literal(w.p.vars))...)
	case what < 7:
		w.decide(p.literal(w.p.vars))
	case what < 8:
		w.back(p.below(w.p.level + 1))
	case what < 9:
		w.back(max(0, w.p.level-1))
	case what < 10:
		oneWrongCall(w, p)
	default:
		w.propagate()
	}
}

func oneWrongCall(w *twin, p *picker) {
	switch p.below(4) {
	case 0:
		w.back(w.p.level + 1 + p.below(2))
	case 1:
		w.back(-1 - p.below(2))
	case 2:
		w.decide(w.p.vars + 1)
	default:
		w.add(p.literal(w.p.vars), -w.p.vars-1)
	}
}

// TestAllShortSequences: P302 to P308 along all sequences of few calls of two variables.
func TestAllShortSequences(t *testing.T) {
	calls := []func(*twin){
		func(w *twin) { w.propagate() },
		func(w *twin) { w.decide(1) },
		func(w *twin) { w.decide(-2) },
		func(w *twin) { w.back(0) },
		func(w *twin) { w.back(1) },
		func(w *twin) { w.add(-1, 2) },
		func(w *twin) { w.add(1, 2, 1) },
		func(w *twin) { w.add(-1, -1) },
		func(w *twin) { w.add(2, -2) },
		func(w *twin) { w.add() },
	}
	const length = 6
	for number := range int(math.Pow(float64(len(calls)), length)) {
		if number%len(calls) != 0 { // the last call is Propagate: all that is ahead of it is told by it
			continue
		}
		w := newTwin(t, 2)
		sequence := make([]int, length)
		for k := range sequence {
			sequence[length-1-k] = number % len(calls)
			number /= len(calls)
		}
		for _, k := range sequence {
			calls[k](w)
		}
		w.look()
		w.follow()
	}
}

// TestGreatSequences: P304 and P305 with more variables, where what follows goes through many clauses.
func TestGreatSequences(t *testing.T) {
	for seed := range 40 {
		p := picker(seed*104729 + 99)
		vars := 20 + p.below(20)
		w := newTwin(t, vars)
		for range 3 * vars {
			w.add(p.literal(vars), p.literal(vars), p.literal(vars))
		}
		for range 120 {
			switch what := p.below(10); {
			case what < 5:
				w.decide(p.literal(vars))
			case what < 6:
				w.back(p.below(w.p.level + 1))
			case what < 7:
				w.add(p.literal(vars), p.literal(vars), p.literal(vars), p.literal(vars))
			default:
				w.propagate()
			}
			if w.p.conflict && w.p.level > 0 && p.below(2) == 0 {
				w.back(w.p.level - 1)
			}
		}
		w.look()
	}
}

// TestSameCalls: rule 5: the same calls have the same answers, in what is free too, and two engines share nothing.
func TestSameCalls(t *testing.T) {
	for seed := range 300 {
		var trails, tales [2][][]int
		var engines [2]*Engine
		for k := range engines {
			engines[k], _ = New(8)
		}
		p := [2]picker{picker(seed + 77), picker(seed + 77)}
		for range 60 {
			for k, e := range engines {
				switch what := p[k].below(8); {
				case what < 3:
					e.Add(p[k].clause(8, 4)...)
				case what < 5:
					e.Decide(p[k].literal(8))
				case what < 6:
					e.Back(p[k].below(4))
				default:
					e.Propagate()
				}
				trails[k] = append(trails[k], e.Trail())
				tales[k] = append(tales[k], e.Conflict(), e.Reason(1+p[k].below(8)))
			}
		}
		if !slices.EqualFunc(trails[0], trails[1], slices.Equal) || !slices.EqualFunc(tales[0], tales[1], slices.Equal) {
			t.Fatalf("seed %d: two engines with the same calls differ", seed)
		}
		other, _ := New(8)
		if other.Clauses() != 0 || len(other.Trail()) != 0 || !other.Propagate() || other.Add(1) != api.OK {
			t.Fatalf("seed %d: a new engine is not empty", seed)
		}
	}
}
