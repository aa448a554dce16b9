package check

import (
	"strings"
	"testing"
	"time"

	"cadence/api"
	"cadence/pair"
)

// closed: a channel that is.
func closed() chan struct{} {
	c := make(chan struct{})
	close(c)
	return c
}

// doneTexts: texts that come to each Kind.
func doneTexts() []string {
	return []string{text(leaky), text("secret k; out x; begin x = k; end"), text(squares(1)), text("begin x = 1; end"), "program", "", "\x00", strings.Repeat(" ", api.MaxText+1)}
}

// TestClosedAhead: Stopped, and nothing else, whatever the text is, and the budget (F24.2).
func TestClosedAhead(t *testing.T) {
	for _, s := range doneTexts() {
		for _, b := range []api.Budget{noBound(), budget(0, 0, 0, 0), bounded(api.CTerms, 1)} {
			is(t, cut(s), Run(s, b, closed()), api.Verdict{Kind: api.Stopped})
		}
	}
}

// TestOpen: a done that is nil, or that stays open, stops nothing (F24.2).
func TestOpen(t *testing.T) {
	kinds := map[int]bool{}
	for _, s := range doneTexts() {
		for _, b := range []api.Budget{bounded(api.CDecisions, 50), bounded(api.CPaths, 0), bounded(api.CTerms, 1)} {
			want := Check(s, b)
			for _, done := range []chan struct{}{nil, make(chan struct{}), make(chan struct{}, 3)} {
				if v := Run(s, b, done); !same(v, want) {
					t.Fatalf("%s: %s, not %s", cut(s), told(v), told(want))
				}
			}
			kinds[want.Kind] = true
		}
	}
	is(t, "Kinds", len(kinds), 4)
}

// TestComesAhead: something that lies in the channel stops it too, or nothing does (F24.2).
func TestComesAhead(t *testing.T) {
	for _, s := range doneTexts() {
		done := make(chan struct{}, 1)
		done <- struct{}{}
		b := bounded(api.CDecisions, 50)
		if v := Run(s, b, done); !same(v, Check(s, b)) && !same(v, api.Verdict{Kind: api.Stopped}) {
			t.Fatalf("%s: %s", cut(s), told(v))
		}
	}
}

// ifs: a program with 2 to the n-th ways.
func ifs(n int) string {
	return "width 8; secret k; public n; out x; begin " + strings.Repeat("if n < x { x = x + n; } else { x = x * n + 1; } ", n) + "end"
}

// TestClosedWhileItWorks: a check that would take very long is stopped; all that is told is that (F24.2).
func TestClosedWhileItWorks(t *testing.T) {
	for _, begin := range []func(chan struct{}){
		func(done chan struct{}) { close(done) },
		func(done chan struct{}) { done <- struct{}{} },
	} {
		done := make(chan struct{})
		ended := make(chan api.Verdict)
		go func() { ended <- Run(text(ifs(60)), noBound(), done) }()
		select {
		case v := <-ended:
			t.Fatalf("ended by itself: %s", told(v))
		case <-time.After(50 * time.Millisecond):
		}
		begin(done)
		select {
		case v := <-ended:
			is(t, "stopped", v, api.Verdict{Kind: api.Stopped})
		case <-time.After(20 * time.Second):
			t.Fatal("it goes on")
		}
	}
}

// TestClosedAtAnyTime: closed at any time, a check tells what Check does, or that it was stopped (F24.2).
func TestClosedAtAnyTime(t *testing.T) {
	s := text(ifs(6))
	want := Check(s, noBound())
	is(t, "Kind", kindWord(want.Kind), "Secure")
	k := picker(242)
	for range 100 {
		done := make(chan struct{})
		go func(wait time.Duration) {
			time.Sleep(wait)
			close(done)
		}(time.Duration(k.below(3000)) * time.Microsecond)
		if v := Run(s, noBound(), done); !same(v, want) && !same(v, api.Verdict{Kind: api.Stopped}) {
			t.Fatal(told(v))
		}
	}
}

// TestLooks: done is looked at at each step: closed behind a query, or behind a fork, the next one is not made.
func TestLooks(t *testing.T) {
	const s = "width 4; secret k; const T[4] = 1, 2, 3, 4; out x; begin x = T[(k * k) & 2]; x = T[k * (k + 1) & 1]; if k { } end"
	for stop := 1; stop <= 4; stop++ {
		done, asks := make(chan struct{}), 0
		w := newWalk(right(t, s), noBound())
		w.done = done
		w.asked = func(*pair.Way, []int, int) {
			if asks++; asks == stop {
				close(done)
			}
		}
		v := w.verdict()
		want := "Stopped which 0 at 0 code 0 used {0 0 0 0}"
		if stop > 2 {
			want = told(Program(right(t, s), noBound()))
		}
		is(t, "closed behind a query", []any{told(v), asks}, []any{want, min(stop, 3)})
	}
}
