package run

import (
	"fmt"
	"testing"

	"cadence/api"
)

// TestLeaks: where two runs part, by hand (P1705).
func TestLeaks(t *testing.T) {
	const head = "width 8; secret k; public n; out x; var a[4]; const T[4] = 1, 2, 3, 4; "
	for _, r := range []struct {
		body  string
		k, l  uint64
		leaks bool
		place int
	}{
		{"x = k * k + n;", 1, 2, false, 0},
		{"if k { }", 1, 2, false, 0},
		{"if k { }", 0, 2, true, 0},
		{"if n { } x = T[n]; if k { }", 0, 2, true, 2},
		{"x = T[k];", 1, 5, false, 0},
		{"x = T[k];", 1, 2, true, 0},
		{"a[k] = 1;", 1, 5, false, 0},
		{"a[k] = 1;", 1, 6, true, 0},
		{"a[n] = k; x = a[n];", 1, 6, false, 0},
		{"x = k / n;", 1, 2, true, 0},
		{"x = n / k;", 1, 2, true, 0},
		{"x = k % n;", 1, 2, true, 0},
		{"x = (k & 1) / n;", 1, 3, false, 0},
		{"x = n / (k & 1);", 1, 3, false, 0},
		// both at a release
		{"release k;", 1, 2, false, 0},
		{"release k; if k == 1 { }", 1, 2, false, 0},
		{"release k; release n; x = T[k];", 1, 2, false, 0},
		{"if n { } release k; x = T[k];", 1, 2, false, 0},
		{"x = k & 1; release x; if k == 1 { }", 1, 3, true, 1},
		{"x = k & 1; release x; if k == 1 { }", 1, 2, false, 0},
		{"x = k & 1; release x; release k; if k == 1 { }", 1, 3, false, 0},
		{"if k == 1 { release k; } else { release k; }", 1, 2, true, 0},
		// a release on one side alone, and one trace at its end: the branch ahead of it is what differs
		{"if k == 1 { release n; }", 1, 2, true, 0},
		{"if n { } if k == 1 { release n; } else { x = 7 / 7; }", 1, 2, true, 1},
		{"if n { } if k == 1 { x = 7 / 7; } else { release n; }", 1, 2, true, 1},
		{"release n; if k == 1 { release n; }", 1, 2, true, 1},
		{"release k; if k == 1 { release n; }", 1, 2, false, 0},
		{"a[0] = k; if k < 2 { release k; }", 0, 1, false, 0},
	} {
		p := parsed(t, head+"begin "+r.body+" end")
		for _, n := range []uint64{9, 0, 255} {
			leakIs(t, p, words(r.k, n), words(r.l, n), r.leaks, r.place)
			leaks, k := plainLeaks(p, words(r.k, n), words(r.l, n))
			is(t, r.body, []any{leaks, k}, []any{r.leaks, r.place})
		}
		leakIs(t, p, words(r.k, 3), words(r.k, 3), false, 0)
	}
}

// TestReleased: traces that part where one has ended, or has a release against something else. Those of a program differ at a branch ahead of that, so a counter is asked for itself (P1705).
func TestReleased(t *testing.T) {
	release, other := api.Event{Kind: api.EvRelease, A: 1}, api.Event{Kind: api.EvRelease, A: 2}
	load := api.Event{Kind: api.EvLoad, A: 1}
	for _, r := range []struct {
		first, second []api.Event
		released      bool
	}{
		{[]api.Event{release}, []api.Event{other}, true},
		{[]api.Event{load, release}, []api.Event{load, other}, true},
		{[]api.Event{load, release, load}, []api.Event{load, other}, true},
		{[]api.Event{release}, []api.Event{load}, false},
		{[]api.Event{release}, nil, false},
		{[]api.Event{load, release}, []api.Event{load}, false},
		{[]api.Event{load, release}, []api.Event{load, load}, false},
		{[]api.Event{release, load}, []api.Event{release, release}, false},
		{[]api.Event{release, load}, []api.Event{release}, false},
		{[]api.Event{load}, []api.Event{{Kind: api.EvLoad, A: 2}, release}, false},
		{[]api.Event{load, release}, []api.Event{{Kind: api.EvLoad, A: 2}, other}, false},
	} {
		for range 2 {
			var c counter
			for _, e := range r.first {
				c.recorder.see(e)
			}
			for _, e := range r.second {
				c.see(e)
			}
			k, differ := c.parting()
			place, want := plainDiffer(r.first, r.second)
			is(t, "where they part", []any{k, differ}, []any{place, want})
			is(t, fmt.Sprint(r), c.released(), r.released)
			r.first, r.second = r.second, r.first
		}
	}
}

// TestPublic: unlike at a public position, in the lowest bits alone; the order of the errors (P1705).
func TestPublic(t *testing.T) {
	for _, width := range widths() {
		p := parsed(t, fmt.Sprintf("width %d; secret k; public n; secret l[2]; public m[2]; out x; begin x = k + n; if m[1] { } end", width))
		x := words(1, 2, 3, 4, 5, 6)
		public, _ := Public(p)
		for i, is := range public {
			for bit := range 64 {
				y := words(1, 2, 3, 4, 5, 6)
				y[i] ^= 1 << bit
				if is && bit < width {
					leakFails(t, p, x, y, api.ErrArg)
				} else {
					leakIs(t, p, x, y, false, 0)
				}
			}
		}
		leakFails(t, p, x, words(1, 3, 3, 4, 5, 6), api.ErrArg)
		leakFails(t, p, x, words(1, 2, 3, 4, 5, 7), api.ErrArg)
		leakFails(t, p, x, words(9, 9, 9, 9, 9, 9), api.ErrArg)
		leakFails(t, p, x, words(1, 3, 3, 4, 5), api.ErrLength)
		leakFails(t, p, x, words(1, 3, 3, 4, 5, 6, 7), api.ErrLength)
		leakFails(t, p, words(1, 2), words(1, 3), api.ErrLength)
		leakFails(t, p, words(1, 2), words(1, 3, 3, 4, 5, 6, 7), api.ErrLength)
	}
}

// TestHighLeaks: high bits of inputs are in no leak (P1705, P1707).
func TestHighLeaks(t *testing.T) {
	p := parsed(t, "width 4; secret k; public n; out x; begin if k > 8 { x = 1 / n; } end")
	leakIs(t, p, words(16+3, 32+5), words(4, 5), false, 0)
	leakIs(t, p, words(16+3, 32+5), words(256+9, 64+5), true, 0)
	leakIs(t, p, words(1<<63, 5), words(15, 5), true, 0)
	leakIs(t, p, words(1<<63, 1<<63), words(0, 0), false, 0)
	leakFails(t, p, words(0, 16), words(0, 17), api.ErrArg)
}

// TestLeaksOfMany: many programs with pairs of inputs, against the plain reading, and against Run and Differ (P1705).
func TestLeaksOfMany(t *testing.T) {
	k := picker(1705)
	counts := map[string]int{}
	for range 1500 {
		p := rightProgram(t, &k, maker{})
		public, _ := Public(p)
		for range 4 {
			x := anyInputs(&k, p.Width, len(public))
			y := otherSecrets(&k, p, x)
			leaks, place := plainLeaks(p, x, y)
			leakIs(t, p, x, y, leaks, place)
			a, b := endOf(t, p, x), endOf(t, p, y)
			at, differ := Differ(a.Trace, b.Trace)
			if leaks && (!differ || at != place) {
				t.Fatalf("they differ at %d, %v, and leak at %d", at, differ, place)
			}
			counts[fmt.Sprint("leak ", leaks, ", differ ", differ)]++
		}
	}
	for _, s := range []string{"leak true, differ true", "leak false, differ true", "leak false, differ false"} {
		if counts[s] < 200 {
			t.Fatal("too few: ", counts)
		}
	}
}
