package solve

import (
	"fmt"
	"testing"

	"cadence/api"
)

// scribbled: all of a list, its spare room too, written over and grown.
func scribbled[T any](list []T, x T) {
	for i := range list[:cap(list)] {
		list[:cap(list)][i] = x
	}
	_ = append(list, x, x, x)
}

// What is handed out is the caller's: no list shares its room with another one, nor with what is answered later.
func TestFormulaIsNew(t *testing.T) {
	s := newStore(t)
	truths := all(t, s, "(ult k:2 j:2)", "F", "(or p q)", "p", "F", "(eq (slice i:8 3 2) 2:2)")
	before := shown(s)
	first, bits := formed(t, s, truths)
	want, wantBits := fmt.Sprint(first), fmt.Sprint(bits)
	for i := range first.Clauses {
		other, _ := formed(t, s, truths)
		scribbled(other.Clauses[i], 77)
		for k, c := range other.Clauses {
			if k != i {
				is(t, fmt.Sprint("beside ", i), c, first.Clauses[k])
			}
		}
	}
	other, otherBits := formed(t, s, truths)
	scribbled(other.Clauses, api.Clause{5})
	scribbled(otherBits, Bit{"x", 1, 2})
	is(t, "the first answer", []any{first, bits}, []any{want, wantBits})
	again, againBits := formed(t, s, truths)
	is(t, "Formula", []any{again, againBits}, []any{want, wantBits})
	is(t, "the store", shown(s), before)
}

func TestValuesAreNew(t *testing.T) {
	s := newStore(t)
	truths := all(t, s, "(ult k:2 j:2)", "(or p q)", "(eq i:8 i:8)")
	before := shown(s)
	for _, ask := range []func() api.Result{
		func() api.Result { return solved(t, s, truths, -1, -1) },
		func() api.Result { return compared(t, s, truths[0], truths[1], -1, -1) },
	} {
		first := ask()
		want := text(first)
		scribbled(ask().Values, api.Value{Name: "x", W: 9, Num: 9})
		is(t, "the first answer", text(first), want)
		is(t, "asked again", text(ask()), want)
		scribbled(first.Values, api.Value{Name: "y", W: 3, Num: 3})
		is(t, "asked again", text(ask()), want)
	}
	is(t, "the store", shown(s), before)
}

// What is handed in is not changed, nor its spare room, and not kept: neither the truths, nor the store, which may grow behind the call.
func TestArgumentsAreTheCallers(t *testing.T) {
	s := newStore(t)
	list := append(all(t, s, "(ult k:2 j:2)", "(or p q)", "p"), 99, 98)
	given := list[:3]
	r := solved(t, s, given, -1, -1)
	f, bits := formed(t, s, given)
	same := compared(t, s, given[0], given[1], -1, -1)
	is(t, "with the spare room", list[3:], "[99 98]")
	before := fmt.Sprint(text(r), f, bits, text(same))
	scribbled(list, made(t, s, "F"))
	all(t, s, "(ult i:2 j:2)", "z", "(not p)")
	is(t, "what was handed out", fmt.Sprint(text(r), f, bits, text(same)), before)
	truths := all(t, s, "(ult k:2 j:2)", "(or p q)", "p")
	f, bits = formed(t, s, truths)
	r = solved(t, s, truths, -1, -1)
	is(t, "a store that has grown", fmt.Sprint(text(r), f, bits, text(compared(t, s, truths[0], truths[1], -1, -1))), before)
	is(t, "what was written over", text(solved(t, s, given, -1, -1)), "unsat; 3, 0")
}
