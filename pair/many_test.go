package pair

import (
	"fmt"
	"slices"
	"testing"

	"cadence/api"
	"cadence/eval"
	"cadence/flat"
)

// valuesFor: of the variables, where the copies have these words for their inputs.
func valuesFor(f api.Flat, x, y []uint64) []api.Value {
	var vals []api.Value
	at := 0
	for _, d := range f.Decls {
		for range max(d.Size, 1) {
			switch d.Kind {
			case api.DPublic:
				vals = append(vals, api.Value{Name: fmt.Sprint("p", at), W: f.Width, Num: x[at]})
				at++
			case api.DSecret:
				vals = append(vals, api.Value{Name: fmt.Sprint("x", at), W: f.Width, Num: x[at]}, api.Value{Name: fmt.Sprint("y", at), W: f.Width, Num: y[at]})
				at++
			}
		}
	}
	return vals
}

// twoInputs: words for the inputs of both copies that agree at public positions, and often elsewhere too.
func twoInputs(k *picker, f api.Flat) (x, y []uint64) {
	same := k.below(4)
	for _, d := range f.Decls {
		if d.Kind != api.DPublic && d.Kind != api.DSecret {
			continue
		}
		for range max(d.Size, 1) {
			a := pick(k, uint64(k.below(4)), pick(k, edges(f.Width)...), k.next()) & top(f.Width)
			b := pick(k, uint64(k.below(4)), pick(k, edges(f.Width)...), k.next(), a, a^1) & top(f.Width)
			if d.Kind == api.DPublic || same == 0 || k.below(4) < same {
				b = a
			}
			x, y = append(x, a), append(y, b)
		}
	}
	return x, y
}

// along: a way, the plain one, and the truths of the way's Differs.
type along struct {
	*going
	p       *plain
	differs []int
}

// step: a way and the plain one are asked and go on by as much as one ask; what comes of them: none at the end, two of a branch.
func (a *along) step(k *picker) []*along {
	a.t.Helper()
	room := pick(k, -1, -1, int64(k.below(20)), int64(k.below(100)))
	ask, want := a.w.Next(room), a.p.next(room)
	sameAsk(a.t, a.going, ask, a.p, want)
	sameLooks(a.t, a.going, a.p)
	if ask.Kind != Branch {
		then, otherwise, e := a.w.Fork()
		is(a.t, "Fork without a branch", []any{then == nil, otherwise == nil, e}, []any{true, true, api.ErrArg})
	}
	if ask.Kind != Differ {
		is(a.t, "Agree without a Differ", a.w.Agree(), api.ErrArg)
	}
	if ask.Kind == Differ || ask.Kind == Branch {
		again := a.w.Next(int64(k.below(9) - 2))
		is(a.t, "asked again", again, Ask{Kind: ask.Kind, Truth: ask.Truth})
	}
	switch ask.Kind {
	case Differ:
		if a.p.differs[len(a.p.differs)-1] != want.Truth {
			a.t.Fatal("no such truth")
		}
		a.differs = append(a.differs, ask.Truth)
		return []*along{a}
	case Branch:
		then, otherwise := a.fork()
		first, second := a.p.fork()
		return []*along{{then, first, slices.Clone(a.differs)}, {otherwise, second, slices.Clone(a.differs)}}
	case Room:
		return []*along{a}
	}
	return nil
}

// walk: all ways of code, in any order of steps, each held against the plain one; visit is called at each stop, ahead of Agree. False, if there were too many ways.
func walk(t testing.TB, k *picker, f api.Flat, most int, visit func(*along, Ask)) bool {
	t.Helper()
	live := []*along{{start(t, f), newPlain(f), nil}}
	for ends := 0; len(live) > 0; {
		i := k.below(len(live))
		a := live[i]
		live = slices.Delete(live, i, i+1)
		before := len(a.differs)
		next := a.step(k)
		if len(next) == 0 {
			ends++
			visit(a, Ask{Kind: End})
		}
		for _, b := range next {
			visit(b, b.w.waits)
			if len(b.differs) > before {
				b.agree()
				b.p.agree()
				sameLooks(t, b.going, b.p)
			}
		}
		live = append(live, next...)
		if len(live)+ends > most {
			return false
		}
	}
	return true
}

// values: of terms with the two copies' inputs.
func (a *along) values(terms []int, x, y []uint64) []uint64 {
	a.t.Helper()
	words, e := eval.Values(a.w.Store(), terms, valuesFor(a.f, x, y))
	if e != api.OK {
		a.t.Fatalf("no values: %d", e)
	}
	return words
}

// isGone: are all assumptions of a way true, and no Differ that was told on it, but for the last ones, so many?
func (a *along) isGone(x, y []uint64, but int) bool {
	a.t.Helper()
	return !slices.Contains(a.values(a.w.Assumed(), x, y), 0) && !slices.Contains(a.values(a.differs[:len(a.differs)-but], x, y), 1)
}

// line: code without ifs' parts that does what was done on a way, and then puts each temp into an array behind all others.
func (a *along) line() api.Flat {
	f := a.f
	size := 16
	if f.Width > 4 {
		size = 64
	}
	if f.Temps > size {
		a.t.Fatal("too many temps for this test: ", f.Temps)
	}
	f.Decls = append(slices.Clone(f.Decls), api.Decl{Kind: api.DOut, Name: "zz", Size: size})
	f.Code = slices.Clone(a.p.gone)
	for i := range f.Temps {
		f.Code = append(f.Code, store(len(f.Decls)-1, number(uint64(i)), temp(i)))
	}
	return f
}

// isRuns: P2306 of a way at a stop: where its assumptions are true and its Differs are not, both runs went this way, have these words, and have traces that are alike so far; a Differ is true just if the next events differ. It tells whether they are.
func isRuns(a *along, ask Ask, x, y []uint64) bool {
	a.t.Helper()
	but := 0
	if ask.Kind == Differ {
		but = 1
	}
	if !a.isGone(x, y, but) {
		return false
	}
	var traces [2][]api.Event
	for i, in := range [][]uint64{x, y} {
		traces[i] = a.isRun(i+1, in, x, y)
	}
	n := a.w.Events()
	if fmt.Sprint(traces[0][:n]) != fmt.Sprint(traces[1][:n]) {
		a.t.Fatalf("traces %v and %v, of %s", traces[0][:n], traces[1][:n], shown(a.f))
	}
	if ask.Kind == Differ {
		differ := a.values([]int{ask.Truth}, x, y)[0]
		if (traces[0][n] != traces[1][n]) != (differ == 1) {
			a.t.Fatalf("the truth is %d, of the events %v and %v, of %s", differ, traces[0][n], traces[1][n], shown(a.f))
		}
	}
	return true
}

// isRun: a copy's run went this way, and has these words. Its trace.
func (a *along) isRun(copy int, in, x, y []uint64) []api.Event {
	a.t.Helper()
	whole, e := flat.Run(a.f, in)
	f := a.line()
	part, bad := flat.Run(f, in)
	if e != api.OK || bad != api.OK {
		a.t.Fatalf("not run: %d %d", e, bad)
	}
	n := a.w.Events()
	if fmt.Sprint(whole.Trace[:n]) != fmt.Sprint(part.Trace[:n]) || len(part.Trace) != n+f.Temps {
		a.t.Fatalf("the trace %v, not %v, of %s", part.Trace[:n], whole.Trace, shown(a.f))
	}
	var parts []bool
	for _, event := range part.Trace[:n] {
		if event.Kind == api.EvBranch {
			parts = append(parts, event.A == 1)
		}
	}
	waiting := len(parts) - len(a.p.parts) // of a branch the event is there, the part is not
	if waiting < 0 || waiting > 1 || !slices.Equal(parts[:len(a.p.parts)], a.p.parts) {
		a.t.Fatalf("the parts %v, not %v, of %s", a.p.parts, parts, shown(a.f))
	}
	var words []int
	var want []uint64
	state := part.State
	for i, d := range a.f.Decls {
		if d.Kind != api.DConst {
			if d.Size > 0 {
				words, want = append(words, a.cells(copy, i)...), append(want, state[0]...)
			}
			state = state[1:]
		}
	}
	for i := range a.f.Temps {
		words, want = append(words, a.word(copy, i)), append(want, state[0][i])
	}
	is(a.t, "the words", a.values(words, x, y), want)
	return whole.Trace
}

// TestManyCodes: any code, all its ways, against the plain reading and against runs with many inputs (P2302, P2303, P2304, P2305, P2306, P2307).
func TestManyCodes(t *testing.T) {
	k := picker(2306)
	held, ways, seen, parted := 0, 0, 0, 0
	for n := range 900 {
		f := anyFlat(t, &k, 4+k.below(8), 3)
		var x, y [6][]uint64
		var count [6]int
		for i := range x {
			x[i], y[i] = twoInputs(&k, f)
		}
		ends := 0
		all := walk(t, &k, f, 60, func(a *along, ask Ask) {
			for i := range x {
				if n%3 == 0 && isRuns(a, ask, x[i], y[i]) {
					held++
					if ask.Kind == Differ {
						seen++
					}
				}
				if ask.Kind == End && a.isGone(x[i], y[i], 0) {
					count[i]++
				}
			}
			if ask.Kind == End {
				ends++
			}
		})
		if !all {
			continue
		}
		ways += ends
		for i := range x {
			one, _ := flat.Run(f, x[i])
			two, _ := flat.Run(f, y[i])
			want := 0
			if fmt.Sprint(one.Trace) == fmt.Sprint(two.Trace) {
				want = 1
				parted++
			}
			if count[i] != want {
				t.Fatalf("%d ways, not %d, with %v and %v, of %s", count[i], want, x[i], y[i], shown(f))
			}
		}
	}
	if held < 2000 || ways < 2000 || seen < 500 || parted < 1500 {
		t.Fatal("too few: ", held, ways, seen, parted)
	}
}

// TestManyPrograms: likewise of code that flat.Make made, and of what Fold and Drop leave of it.
func TestManyPrograms(t *testing.T) {
	k := picker(2307)
	for _, text := range []string{
		chapterText,
		"width 4; secret k; public n; out x; begin x = n; for i 0 3 { if x < 8 { x = x + i + n; } else { x = x / 3; } } end",
		"width 8; line 2; secret k; public n; var a[4]; out x; begin a[n] = k; a[n + 1] = n; x = a[n] & 7; release x; if x { x = a[x]; } end",
		"width 16; line 4; secret k[2]; public n; const T[8] = 1, 2, 3, 4, 5, 6, 7, 8; out x; begin x = T[k[0] & 3]; if n { x = T[k[1]]; } end",
		"width 4; line 8; secret k; public n; const T[16] = 1, 2, 3, 4, 5, 6, 7, 8, 9, 10, 11, 12, 13, 14, 15, 0; out x; begin x = T[n]; x = x % (k | 1); if x == k { x = 1; } end",
		"width 4; secret k; public n; out x; begin x = k & 1; release x; if x { x = n; } if n { if x { x = 1; } } end",
		"width 64; secret k; public n; out x; begin x = sel(k, 1, 2) * n; if n { x = slt(x, k) + sar(k, n); } else { x = (k <<< n) ^ (k >>> n); } end",
		"width 32; line 2; secret k[4]; public n; out x; begin for i 0 4 { k[i + n] = k[i] + n; x = x + k[n]; } end",
	} {
		f := program(t, text)
		folded, _ := flat.Fold(f)
		dropped, _ := flat.Drop(f)
		for _, f := range []api.Flat{f, folded, dropped} {
			for range 4 {
				x, y := twoInputs(&k, f)
				ends := 0
				all := walk(t, &k, f, 400, func(a *along, ask Ask) {
					isRuns(a, ask, x, y)
					if ask.Kind == End && a.isGone(x, y, 0) {
						ends++
					}
				})
				one, _ := flat.Run(f, x)
				two, _ := flat.Run(f, y)
				is(t, "all ways, just one", []any{all, ends == 1}, []any{true, fmt.Sprint(one.Trace) == fmt.Sprint(two.Trace)})
			}
		}
	}
}
