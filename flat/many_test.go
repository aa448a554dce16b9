package flat

import (
	"fmt"
	"reflect"
	"testing"

	"cadence/api"
	"cadence/run"
	"cadence/wf"
)

// sameEnd: two runs are the same, State and Trace.
func sameEnd(t testing.TB, what string, f api.Flat, in []uint64, got, want api.Ended) {
	t.Helper()
	if fmt.Sprint(got.State) != fmt.Sprint(want.State) || fmt.Sprint(got.Trace) != fmt.Sprint(want.Trace) {
		t.Fatalf("%s: %v, not %v, with %v, of %s", what, got, want, in, shownFlat(f))
	}
}

// TestManyPrograms: what many programs become, line by line, and that they do the same as the programs (F19.1, F19.2, P1901).
func TestManyPrograms(t *testing.T) {
	k := picker(1901)
	events, most, ifs := map[int]int{}, 0, 0
	for range 2500 {
		p := rightProgram(t, &k)
		f := madeOf(t, p)
		text, temps := plainMade(p)
		if got := textOf(t, f); got != text || f.Temps != temps {
			t.Fatalf("%d temps:\n%s\nnot %d:\n%s\nof\n%s", f.Temps, got, temps, text, shown(p))
		}
		if f.Width != p.Width || f.Line != p.Line || !reflect.DeepEqual(plainFlat(f).Decls, plainFlat(api.Flat{Decls: p.Decls}).Decls) {
			t.Fatalf("other declarations: %s, of\n%s", shownFlat(f), shown(p))
		}
		size, _ := wf.Size(p)
		if n := sizeOf(t, f); n > size || n != plainSize(f.Code) {
			t.Fatalf("%d instructions, and %d steps, of\n%s", n, size, shown(p))
		}
		most = max(most, plainSize(f.Code))
		if !plainMay(f) {
			t.Fatalf("may not be: %s", shownFlat(f))
		}
		for range 3 {
			in := anyInputs(&k, p.Width, lengthOf(p.Decls))
			want, e := run.Run(p, in)
			if e != api.OK {
				t.Fatalf("%d, of\n%s", e, shown(p))
			}
			sameEnd(t, "run", f, in, ranWith(t, f, in), want)
			for _, e := range want.Trace {
				events[e.Kind]++
			}
		}
		for i := range f.Code {
			if f.Code[i].Op == api.FIf {
				ifs++
			}
		}
	}
	for kind := api.EvBranch; kind <= api.EvRelease; kind++ {
		if events[kind] < 1000 || most < 300 || ifs < 500 {
			t.Fatal("too few: ", events, most, ifs)
		}
	}
}

// TestManyRuns: flat code that no program becomes, against a program with a declaration for each temp (F19.2).
func TestManyRuns(t *testing.T) {
	k := picker(1902)
	events := map[int]int{}
	for range 3000 {
		f := anyFlat(t, &k)
		is(t, "its size", sizeOf(t, f), plainSize(f.Code))
		for range 3 {
			in := anyInputs(&k, f.Width, lengthOf(f.Decls))
			want := plainRun(t, f, in)
			sameEnd(t, "run", f, in, ranWith(t, f, in), want)
			for _, e := range want.Trace {
				events[e.Kind]++
			}
		}
	}
	for kind := api.EvBranch; kind <= api.EvRelease; kind++ {
		if events[kind] < 1000 {
			t.Fatal("too few: ", events)
		}
	}
}

// pieces: many pieces of flat code: what programs become, what no program becomes, and what Drop and Fold made of others.
func pieces(t testing.TB, k *picker, n int) []api.Flat {
	t.Helper()
	var list []api.Flat
	for i := range n {
		f := anyFlat(t, k)
		if i%3 == 0 {
			f = madeOf(t, rightProgram(t, k))
		}
		switch k.below(4) {
		case 0:
			f = folded(t, f)
		case 1:
			f = dropped(t, f)
		}
		list = append(list, f)
	}
	return list
}

// TestManyDrops: Drop against the plain reading, that it keeps what is seen, and that Drop of it is it (F19.3, P1902, P1903).
func TestManyDrops(t *testing.T) {
	k := picker(1903)
	fewer, none, unlike := 0, 0, 0
	for _, f := range pieces(t, &k, 3000) {
		g := dropped(t, f)
		same(t, "Drop", g, plainDrop(f))
		same(t, "Drop of Drop", dropped(t, g), g)
		if !May(g) || !plainMay(g) {
			t.Fatalf("may not be: %s\nof %s", shownFlat(g), shownFlat(f))
		}
		if plainSize(g.Code) < plainSize(f.Code) {
			fewer++
		} else {
			none++
		}
		x := anyInputs(&k, f.Width, lengthOf(f.Decls))
		y := otherSecrets(&k, f, x)
		keepsSeen(t, "Drop", f, g, x, y)
		if fmt.Sprint(ranWith(t, f, x).State) != fmt.Sprint(ranWith(t, g, x).State) {
			unlike++
		}
	}
	if fewer < 1000 || none < 300 || unlike < 100 {
		t.Fatal("too few: ", fewer, none, unlike)
	}
}

// TestManyFolds: Fold against the plain reading, that it keeps the state and what is seen, and that Fold of it is it (F19.4, P1902, P1903).
func TestManyFolds(t *testing.T) {
	k := picker(1904)
	turned, stays := 0, 0
	for _, f := range pieces(t, &k, 3000) {
		g := folded(t, f)
		same(t, "Fold", g, plainFold(f))
		same(t, "Fold of Fold", folded(t, g), g)
		if !May(g) || !plainMay(g) {
			t.Fatalf("may not be: %s\nof %s", shownFlat(g), shownFlat(f))
		}
		is(t, "its size", sizeOf(t, g), sizeOf(t, f))
		if textOf(t, g) == textOf(t, f) {
			stays++
		} else {
			turned++
		}
		x := anyInputs(&k, f.Width, lengthOf(f.Decls))
		y := otherSecrets(&k, f, x)
		keepsSeen(t, "Fold", f, g, x, y)
		for _, in := range [][]uint64{x, y} {
			sameEnd(t, "Fold", f, in, ranWith(t, g, in), ranWith(t, f, in))
		}
		h := dropped(t, g)
		keepsSeen(t, "Drop of Fold", f, h, x, y)
		keepsSeen(t, "Fold of Drop of Fold", f, folded(t, h), x, y)
	}
	if turned < 1000 || stays < 300 {
		t.Fatal("too few: ", turned, stays)
	}
}

// keepsSeen: with both of two inputs the other code has the same trace and the same outputs, and so tells the same of them.
func keepsSeen(t testing.TB, what string, f, g api.Flat, x, y []uint64) {
	t.Helper()
	var traces [2][2][]api.Event
	for i, in := range [][]uint64{x, y} {
		want, got := ranWith(t, f, in), ranWith(t, g, in)
		traces[i] = [2][]api.Event{want.Trace, got.Trace}
		if fmt.Sprint(got.Trace) != fmt.Sprint(want.Trace) {
			t.Fatalf("%s shows %v, not %v, with %v, of %s", what, got.Trace, want.Trace, in, shownFlat(f))
		}
		if fmt.Sprint(outputsOf(f.Decls, got.State)) != fmt.Sprint(outputsOf(f.Decls, want.State)) {
			t.Fatalf("%s ends with %v, not %v, with %v, of %s", what, got.State, want.State, in, shownFlat(f))
		}
	}
	one, is1 := run.Differ(traces[0][0], traces[1][0])
	two, is2 := run.Differ(traces[0][1], traces[1][1])
	if one != two || is1 != is2 {
		t.Fatalf("%s: the traces differ at %d (%v), not at %d (%v), of %s", what, two, is2, one, is1, shownFlat(f))
	}
}

// TestManyTexts: a text can be read back, and two pieces with unlike code have unlike texts (F19.5).
func TestManyTexts(t *testing.T) {
	k := picker(1905)
	for range 2000 {
		f := anyFlat(t, &k)
		text := textOf(t, f)
		g := f
		g.Code = readCode(t, f.Decls, text)
		same(t, "read back", g, f)
		is(t, "its text", textOf(t, g), text)
		g.Code = readCode(t, f.Decls, oneLine(text))
		same(t, "read back from one line", g, f)
	}
}
