package symex

import (
	"fmt"
	"math/big"
	"testing"

	"cadence/api"
	"cadence/flat"
	"cadence/need"
)

// anyValues: of all variables of some code, and what its inputs are with them.
func anyValues(k *picker, b *begun) []api.Value {
	var words []uint64
	for range b.in {
		words = append(words, pick(k, uint64(k.below(4)), pick(k, edges(b.f.Width)...), k.next()))
	}
	return b.told(words...)
}

// traceOf: what events are with the values of their terms (P2201).
func (b *begun) traceOf(events []Event, vals []api.Value) []api.Event {
	b.t.Helper()
	var trace []api.Event
	for _, e := range events {
		var x, y uint64
		if e.X != 0 {
			x = b.values([]int{e.X}, vals)[0]
		}
		if e.Y != 0 {
			y = b.values([]int{e.Y}, vals)[0]
		}
		switch e.Kind {
		case api.EvLoad, api.EvStore:
			trace = append(trace, api.Event{Kind: e.Kind, A: uint64(e.N), B: x})
		case api.EvBranch:
			trace = append(trace, api.Event{Kind: e.Kind, A: uint64(e.N)})
		case api.EvDivide:
			trace = append(trace, api.Event{Kind: e.Kind, A: x, B: y})
		case api.EvRelease:
			trace = append(trace, api.Event{Kind: e.Kind, A: x})
		default:
			b.t.Fatal("no event: ", e)
		}
	}
	return trace
}

// isRun: with these values a way's conditions are true, its events are the run's trace, its words the run's (P2201).
func isRun(t testing.TB, b *begun, p Path, vals []api.Value) {
	t.Helper()
	for i, v := range b.values(p.Conds, vals) {
		if v != 1 {
			t.Fatalf("the condition %d is not true with %v, of %s", i, vals, shown(b.f))
		}
	}
	ended, e := flat.Run(b.f, b.values(b.in, vals))
	if e != api.OK {
		t.Fatal(e)
	}
	if got := b.traceOf(p.Events, vals); fmt.Sprint(got) != fmt.Sprint(ended.Trace) {
		t.Fatalf("%v: the trace %v, not %v, of %s", vals, got, ended.Trace, shown(b.f))
	}
	var state [][]uint64
	for _, l := range p.State {
		state = append(state, b.values(l, vals))
	}
	if fmt.Sprint(state) != fmt.Sprint(ended.State) {
		t.Fatalf("%v: the words %v, not %v, of %s", vals, state, ended.State, shown(b.f))
	}
}

// holds: are all conditions of a way true?
func holds(b *begun, p Path, vals []api.Value) bool {
	b.t.Helper()
	for _, v := range b.values(p.Conds, vals) {
		if v != 1 {
			return false
		}
	}
	return true
}

// onlyOne: just one of all ways has conditions that are all true, and that is Follow's (P2202).
func onlyOne(t testing.TB, b *begun, ways []Path, followed Path, vals []api.Value) {
	t.Helper()
	found := 0
	for _, p := range ways {
		if holds(b, p, vals) {
			found++
			samePath(t, "of all ways with these values", followed, p)
		}
	}
	if found != 1 {
		t.Fatalf("%d ways with %v, of %s", found, vals, shown(b.f))
	}
}

// waysOf: all ways, if there are not too many; they are as many as need tells, at the most (P2203).
func waysOf(t testing.TB, b *begun, most int) ([]Path, bool) {
	t.Helper()
	n, e := need.Code(b.f)
	if e != api.OK {
		t.Fatal(e)
	}
	told, _ := new(big.Int).SetString(n.Paths, 10)
	ways, more := b.paths(most)
	if told.Cmp(big.NewInt(int64(len(ways)))) < 0 || more && told.Cmp(big.NewInt(int64(len(ways)))) == 0 {
		t.Fatalf("%d ways, and need tells %s, of %s", len(ways), n.Paths, shown(b.f))
	}
	return ways, !more
}

// TestManyCodes: any code, against the plain reading, flat.Run and need, with many values (F22.4, F22.5, P2201, P2202, P2203).
func TestManyCodes(t *testing.T) {
	k := picker(2201)
	several, long, seen := 0, 0, 0
	for range 2500 {
		b := begin(t, anyFlat(t, &k, 5+k.below(9), 3))
		ways, all := waysOf(t, b, 60)
		asPlain(t, b, ways, all)
		for range 4 {
			asRun(t, b, ways, all, anyValues(&k, b))
		}
		if len(ways) > 3 {
			several++
		}
		if !all {
			long++
		}
		if len(ways) > 1 && len(ways[0].Events) > 5 {
			seen++
		}
	}
	if several < 700 || long < 100 || seen < 900 {
		t.Fatal("too few: ", several, long, seen)
	}
}

// asPlain: ways, and whether they are all, as the plain reading has them.
func asPlain(t testing.TB, b *begun, ways []Path, all bool) {
	t.Helper()
	want, known := plainPaths(b.f, b.m, b.in, len(ways))
	if all != known || !all && len(want) < len(ways) {
		t.Fatalf("%d ways, are they all: %v; there are %d, %v, of %s", len(ways), all, len(want), known, shown(b.f))
	}
	for i := range ways {
		samePath(t, fmt.Sprint("the way ", i), ways[i], want[i])
	}
}

// asRun: Follow's way is what the run does, and the only one of them (if they are all) whose conditions are true.
func asRun(t testing.TB, b *begun, ways []Path, all bool, vals []api.Value) {
	t.Helper()
	p := b.follow(vals)
	isRun(t, b, p, vals)
	if all {
		onlyOne(t, b, ways, p, vals)
	}
}

// programs: such as are checked.
func programs() []string {
	return []string{
		"width 8; line 4; secret k[4]; public n[4]; const S[16] = 12, 5, 6, 11, 9, 0, 10, 13, 3, 14, 15, 8, 4, 7, 1, 2; out x[4]; begin for i 0 4 { x[i] = S[(k[i] ^ n[i]) & 15] | (S[(k[i] ^ n[i]) >> 4] << 4); } end",
		"width 16; secret e; public b; public m; out r; begin r = 1; for i 0 6 { r = r * r % m; if e >> (5 - i) & 1 { r = r * b % m; } } end",
		"width 8; secret k[4]; public n[4]; out same; var d; begin for i 0 4 { d = d | (k[i] ^ n[i]); } same = d == 0; release same; if same { d = k[0]; } end",
		"width 8; secret k[4]; public n[4]; out bad; begin for i 0 4 { if bad == 0 { if k[i] != n[i] { bad = i + 1; } } } end",
		"width 32; line 2; secret s; public n; var a[8]; out x; begin for i 0 8 { a[i] = s <<< i; } for i 0 4 { if a[n + i] < a[s] { x = a[n + i]; a[n + i] = a[s]; a[s] = x; } } end",
		"width 4; secret s[2]; public p; out q; out r; begin q = s[p] / s[p + 1]; r = s[p] % s[p + 1]; if q == r { release q; if slt(q, p) { r = sar(q, 1); } } else { q = sel(r, q >>> 1, -q); } end",
		"width 64; secret k; out x; begin for i 0 5 { if k & 1 { k = 3 * k + 1; } else { k = k >> 1; } x = x + k; } end",
	}
}

// TestPrograms: likewise of programs, of their Fold and their Drop (F22.4, F22.5, P2201, P2202, P2203).
func TestPrograms(t *testing.T) {
	k := picker(31)
	for _, text := range programs() {
		f := program(t, text)
		folded, _ := flat.Fold(f)
		dropped, _ := flat.Drop(f)
		for _, f := range []api.Flat{f, folded, dropped} {
			b := begin(t, f)
			ways, all := waysOf(t, b, 600)
			is(t, "all of them", all, true)
			asPlain(t, b, ways, all)
			for range 20 {
				asRun(t, b, ways, all, anyValues(&k, b))
			}
		}
	}
}

// TestAsMany: where no truth tells its part there are just as many ways as need tells (P2203).
func TestAsMany(t *testing.T) {
	for _, r := range []struct {
		text string
		want int
	}{
		{"if k { } if n { }", 4},
		{"if k { if n { } else { } } else { if n == 2 { } }", 4},
		{"if k { if n { if k < n { } } }", 4},
		{"for i 0 7 { if k >> i & 1 { x = x + n; } }", 128},
		{"for i 0 3 { if k == i { if n == i { } } else { if n < i + 1 { } } }", 64},
	} {
		b := begin(t, program(t, "width 8; secret k; public n; out x; begin "+r.text+" end"))
		n, _ := need.Code(b.f)
		is(t, "need of "+r.text, n.Paths, r.want)
		ways, all := waysOf(t, b, r.want)
		is(t, r.text, []any{len(ways), all}, []any{r.want, true})
		ways, all = waysOf(t, b, r.want-1)
		is(t, r.text, []any{len(ways), all}, []any{r.want - 1, false})
	}
}

// TestOwnWords: words of the inputs that are terms of other variables, each under many values (P2201, P2202).
func TestOwnWords(t *testing.T) {
	k := picker(77)
	for range 600 {
		b := begin(t, anyFlat(t, &k, 7, 3))
		in := b.in
		for i := range in {
			switch k.below(4) {
			case 0:
				in[i] = b.constant(pick(&k, edges(b.f.Width)...))
			case 1:
				in[i] = in[k.below(len(in))]
			case 2:
				in[i], _ = b.m.Bin(pick(&k, api.OpAdd, api.OpBxor, api.OpMul), in[i], in[k.below(len(in))])
			}
		}
		ways, all := waysOf(t, b, 60)
		for range 4 {
			asRun(t, b, ways, all, anyValues(&k, b))
		}
	}
}

// TestAllValues: over narrow words, under all values (P2201, P2202).
func TestAllValues(t *testing.T) {
	for _, text := range []string{
		"secret k; public n; out x; const T[4] = 1, 2, 4, 8; begin x = T[k]; if x < n { x = x / k; } if x { release x; x = T[x + n]; } end",
		"secret k; public n; out x; var a[8]; begin a[k] = n; a[n] = k; if a[3] { if a[k] == n { x = 1; } } else { x = a[x + k] % n; } end",
		"line 2; secret k[2]; out x; begin for i 0 2 { if sar(k[i], 3) { k[1 - i] = -k[i]; } else { x = x + k[i]; } } x = sel(slt(k[0], k[1]), x, k[x]); end",
	} {
		b := begin(t, program(t, "width 4; "+text))
		ways, all := waysOf(t, b, 60)
		is(t, "all", all, true)
		for x := range uint64(256) {
			asRun(t, b, ways, all, b.told(x&15, x>>4))
		}
	}
}
