package tseitin

import (
	"fmt"
	"slices"
	"testing"

	"cadence/api"
)

// scribbled: all of a list, its spare room too, written over and grown.
func scribbled[T any](list []T, x T) {
	for i := range list[:cap(list)] {
		list[:cap(list)][i] = x
	}
	_ = append(list, x, x, x)
}

// What is handed out is the caller's: no list shares its room with another one, nor with what is answered later.
func TestAnswersAreNew(t *testing.T) {
	g := mixed(t)
	there := look(t, g)
	roots := []uint32{18, 0, 11, 3, 0, 18}
	for name, f := range both() {
		first, cone := told(t, f, g, roots...)
		want, wantCone := fmt.Sprint(first), fmt.Sprint(cone)
		for i := range first.Clauses {
			others, _ := told(t, f, g, roots...)
			is(t, name, others, want)
			scribbled(others.Clauses[i], 77)
			for k, c := range others.Clauses {
				if k != i {
					is(t, fmt.Sprint(name, " beside ", i), c, first.Clauses[k])
				}
			}
			is(t, name, first, want)
		}
		other, otherCone := told(t, f, g, roots...)
		scribbled(other.Clauses, api.Clause{5})
		scribbled(otherCone, 9)
		is(t, name, []any{first, cone}, []any{want, wantCone})
		again, againCone := told(t, f, g, roots...)
		is(t, name, []any{again, againCone}, []any{want, wantCone})
	}
	is(t, "the graph", look(t, g), there)
}

func TestValuesAreNew(t *testing.T) {
	g := mixed(t)
	there := look(t, g)
	in, cone, m := []bool{true, true, false, true, true}, []int{1, 2, 3, 4}, []int8{1, -1, 1, 1}
	lifted := must[[]bool](t)(Lift(g, cone, m))
	filled := must[[]int8](t)(Fill(g, []uint32{18}, in))
	scribbled(must[[]bool](t)(Lift(g, cone, m)), true)
	scribbled(must[[]int8](t)(Fill(g, []uint32{18}, in)), 5)
	is(t, "Lift, Fill", []any{lifted, filled}, "[[true false true true false] [1 1 1 -1 -1 1 1 -1]]")
	is(t, "Lift", must[[]bool](t)(Lift(g, cone, m)), lifted)
	is(t, "Fill", must[[]int8](t)(Fill(g, []uint32{18}, in)), filled)
	is(t, "the graph", look(t, g), there)
}

// What is handed in is not changed, nor its spare room, and not kept.
func TestArgumentsAreTheCallers(t *testing.T) {
	g := mixed(t)
	roots := []uint32{18, 0, 11, 3, 1, 99, 98}
	given := roots[:5]
	in := []bool{true, true, false, true, true, true, false}
	cone, m := []int{2, 1, 5, 3, 2, 99, 98}, []int8{1, 1, -1, 1, -1, 9, 8}
	full, fullCone := told(t, Encode, g, given...)
	polar, polarCone := told(t, Polar, g, given...)
	filled := must[[]int8](t)(Fill(g, given, in[:5]))
	lifted := must[[]bool](t)(Lift(g, cone[:5], m[:5]))
	is(t, "what was handed in", []any{roots, in, cone, m}, "[[18 0 11 3 1 99 98] [true true false true true true false] [2 1 5 3 2 99 98] [1 1 -1 1 -1 9 8]]")

	before := fmt.Sprint(full, fullCone, polar, polarCone, filled, lifted)
	scribbled(roots, 2)
	scribbled(in, false)
	scribbled(cone, 1)
	scribbled(m, -1)
	must[uint32](t)(g.And(18, 20))
	must[uint32](t)(g.Input())
	is(t, "what was handed out", fmt.Sprint(full, fullCone, polar, polarCone, filled, lifted), before)
	again, _ := told(t, Encode, g, 18, 0, 11, 3, 1)
	is(t, "a graph that has grown", again, full)
	refusedFill(t, g, []uint32{18}, make([]bool, 5), api.ErrArg)
	is(t, "one input more", len(must[[]bool](t)(Lift(g, nil, nil))), 6)
}

// The same calls have the same answers, whatever was asked between them.
func TestNothingIsKept(t *testing.T) {
	p := picker(4)
	g := grown(t, &p, 4, 60)
	var asked [][]uint32
	var answers []string
	ask := func(roots []uint32) string {
		full, cone := told(t, Encode, g, roots...)
		polar, _ := told(t, Polar, g, roots...)
		filled := must[[]int8](t)(Fill(g, roots, make([]bool, g.Inputs())))
		return fmt.Sprint(full, cone, polar, filled, must[[]bool](t)(Lift(g, cone, filled)))
	}
	for range 50 {
		roots := literals(&p, g, p.below(5))
		asked, answers = append(asked, roots), append(answers, ask(slices.Clone(roots)))
	}
	for i, roots := range slices.Backward(asked) {
		is(t, "again", ask(roots), answers[i])
	}
}
