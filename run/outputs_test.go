package run

import (
	"slices"
	"testing"

	"cadence/api"
)

// outputsAre: Outputs answers these words.
func outputsAre(t testing.TB, p api.Program, e api.Ended, want ...uint64) {
	t.Helper()
	got, bad := Outputs(p, e)
	if bad != api.OK || !slices.Equal(got, want) {
		t.Fatalf("the outputs of %v: %v, %d, not %v, of %s", e, got, bad, want, shown(p))
	}
}

// outputsFail: Outputs answers ErrArg and nothing else.
func outputsFail(t testing.TB, p api.Program, state ...[]uint64) {
	t.Helper()
	got, bad := Outputs(p, api.Ended{State: state})
	if bad != api.ErrArg || len(got) != 0 {
		t.Fatalf("the outputs of %v: %v, %d, of %s", state, got, bad, shown(p))
	}
}

// TestOutputs: of what Run answers, the words of the kind DOut, in their order (P1703).
func TestOutputs(t *testing.T) {
	for _, r := range []struct {
		text string
		want []uint64
	}{
		{"secret k; begin end", nil},
		{"secret k; out x; begin end", words(0)},
		{"secret k; out x; begin x = k + 1; end", words(6)},
		{"secret k; var v; begin v = 9; end", nil},
		{"out x; secret k; out y; begin x = 1; y = k; end", words(1, 5)},
		{"out y; secret k; out x; begin x = 1; y = k; end", words(5, 1)},
		{"out a[4]; secret k; begin a[1] = k; a[3] = 2; end", words(0, 5, 0, 2)},
		{"const T[2] = 7, 8; out a[2]; var v[2]; const U[1] = 6; secret k; out x; const V[1] = 1; out b[1]; begin a[0] = T[1]; v[0] = 9; x = U[0]; b[0] = k; end", words(8, 0, 6, 5)},
		{"out x; secret k; out y; begin release x; if k { x = 3; } k = 7; end", words(3, 0)},
	} {
		p := parsed(t, r.text)
		a := endOf(t, p, words(5))
		outputsAre(t, p, a, r.want...)
		outputsAre(t, p, api.Ended{State: a.State}, r.want...)
		outputsAre(t, p, api.Ended{State: a.State, Trace: []api.Event{{Kind: 99, A: 1, B: 2}}}, r.want...)
	}
}

// TestOtherStates: states that no run answered, but that have the form of what it answers (P1703).
func TestOtherStates(t *testing.T) {
	p := parsed(t, "width 8; secret k; const T[2] = 1, 2; out a[2]; var v; out x; begin end")
	outputsAre(t, p, api.Ended{State: [][]uint64{{1}, {2, 3}, {4}, {5}}}, 2, 3, 5)
	outputsAre(t, p, api.Ended{State: [][]uint64{{200}, {0, 255}, {77}, {128}}}, 0, 255, 128)
	none := parsed(t, "const T[2] = 1, 2; begin end")
	outputsAre(t, none, api.Ended{})
	outputsAre(t, none, api.Ended{State: [][]uint64{}})
	outputsAre(t, none, api.Ended{Trace: []api.Event{{Kind: 1}}})
	outputsFail(t, none, nil)
	outputsFail(t, none, words(1, 2))
}

// TestOtherForms: a declaration too few, too many, a word too few, too many, at each place (P1703).
func TestOtherForms(t *testing.T) {
	for _, text := range []string{
		"begin end", "out x; begin end", "secret k; begin end", "var v[2]; begin end",
		"secret k; const T[2] = 1, 2; out a[2]; var v; out x; begin end",
		"public n[4]; out x; out y[1]; const T[1] = 1; var w[256]; secret l; begin end",
	} {
		p := parsed(t, text)
		state := endOf(t, p, make([]uint64, lengthOf(t, p))).State
		outputsFail(t, p, append(slices.Clone(state), nil)...)
		outputsFail(t, p, append(slices.Clone(state), words())...)
		outputsFail(t, p, append(slices.Clone(state), words(1))...)
		outputsFail(t, p, slices.Insert(slices.Clone(state), 0, nil)...)
		outputsFail(t, p, make([][]uint64, len(state)+1)...)
		if len(state) == 0 {
			continue
		}
		outputsFail(t, p)
		outputsFail(t, p, make([][]uint64, len(state))...)
		outputsFail(t, p, slices.Concat(state, state)...)
		for i := range state {
			outputsFail(t, p, state[:i]...)
			outputsFail(t, p, slices.Delete(slices.Clone(state), i, i+1)...)
			for _, n := range []int{0, len(state[i]) - 1, len(state[i]) + 1, 2 * len(state[i]), 2*len(state[i]) + 7} {
				other := slices.Clone(state)
				other[i] = make([]uint64, n, n+len(state[i]))
				outputsFail(t, p, other...)
			}
		}
	}
	p := parsed(t, "out a[2]; out x; begin end")
	outputsFail(t, p, words(1), words(2, 3))
	outputsFail(t, p, words(1, 2, 3))
	outputsFail(t, p, words(1, 2), words())
	outputsFail(t, p, words(1, 2), nil)
	outputsAre(t, p, api.Ended{State: [][]uint64{{1, 2}, {3}}}, 1, 2, 3)
	table := parsed(t, "const T[2] = 1, 2; out x; begin end")
	outputsFail(t, table, words(1, 2), words(3)) // a table is in no state
	outputsAre(t, table, api.Ended{State: [][]uint64{{3}}}, 3)
}

// TestOutputsOfMany: over many programs they are the words of the plain reading (P1703).
func TestOutputsOfMany(t *testing.T) {
	k := picker(1703)
	for range 300 {
		p := rightProgram(t, &k, maker{})
		in := anyInputs(&k, p.Width, lengthOf(t, p))
		var want []uint64
		next := 0
		a := plainly(p, in)
		for _, d := range p.Decls {
			if d.Kind == api.DConst {
				continue
			}
			if d.Kind == api.DOut {
				want = append(want, a.State[next]...)
			}
			next++
		}
		outputsAre(t, p, endOf(t, p, in), want...)
		is(t, "the state's lists", len(a.State), next)
	}
}
