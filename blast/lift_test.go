package blast

import (
	"fmt"
	"slices"
	"strings"
	"testing"

	"cadence/aig"
	"cadence/api"
	"cadence/term"
)

// P1103, P1104: names in an order that is neither that of the inputs nor that of letters without case; truths and words up to 64 bits.
func TestLiftOrder(t *testing.T) {
	s := must[*term.Store](t)(term.New(0))
	vars := []api.Value{{Name: "b", W: 2}, {Name: "a10", W: 0}, {Name: "a2", W: 64}, {Name: "B", W: 1}, {Name: "_", W: 3}, {Name: "a", W: 8}, {Name: "ab", W: 0}}
	b, _ := newBlaster(t, s)
	for _, v := range vars {
		must[[]uint32](t)(b.Bits(must[int](t)(s.Var(v.Name, v.W))))
	}
	var want []Input
	for _, v := range vars {
		for bit := range max(1, v.W) {
			want = append(want, Input{v.Name, v.W, bit})
		}
	}
	is(t, "Inputs", b.Inputs(), want)
	names := []string{"B", "_", "a", "a10", "a2", "ab", "b"}
	p := picker(31)
	for range 50 {
		var in []bool
		told := map[string]api.Value{}
		for _, v := range vars {
			v.Num = p.word(v.W)
			told[v.Name] = v
			for bit := range max(1, v.W) {
				in = append(in, v.Num>>bit&1 == 1)
			}
		}
		var sorted []api.Value
		for _, name := range names {
			sorted = append(sorted, told[name])
		}
		is(t, "Lift", must[[]api.Value](t)(b.Lift(in)), sorted)
	}
}

// P1104: too few values, too many, none.
func TestLiftLengths(t *testing.T) {
	s, _ := newStore(t, "1 var k 3\n2 var p 0\nroots 1 2\n")
	b, _ := newBlaster(t, s)
	refused := func(n int) {
		t.Helper()
		v, e := b.Lift(make([]bool, n))
		is(t, fmt.Sprint("Lift of ", n), []any{len(v), e}, []any{0, api.ErrArg})
	}
	refused(3) // nothing is made yet
	must[[]uint32](t)(b.Bits(1))
	is(t, "k alone", must[[]api.Value](t)(b.Lift([]bool{false, true, true})), "[{k 3 6}]")
	refused(4)
	must[[]uint32](t)(b.Bits(2))
	for _, n := range []int{0, 1, 2, 3, 5, 6, 100} {
		refused(n)
	}
	_, e := b.Lift(nil)
	is(t, "Lift of nil", e, api.ErrArg)
	is(t, "both", must[[]api.Value](t)(b.Lift([]bool{true, false, true, true})), "[{k 3 5} {p 0 1}]")
	is(t, "both are 0", must[[]api.Value](t)(b.Lift(make([]bool, 4))), "[{k 3 0} {p 0 0}]")
}

// A store has no variables of one name and unlike widths; variables that nothing led to have no value.
func TestLiftNames(t *testing.T) {
	s := must[*term.Store](t)(term.New(0))
	must[int](t)(s.Var("k", 3))
	_, e := s.Var("k", 4)
	is(t, "one name, another width", e, api.ErrName)
	must[int](t)(s.Var("other", 4))
	b, _ := newBlaster(t, s)
	must[[]uint32](t)(b.Bits(1))
	is(t, "Lift", must[[]api.Value](t)(b.Lift([]bool{true, true, true})), "[{k 3 7}]")
}

// Lift goes back from what the variables' bits are, whatever terms they stand in.
func TestLiftMixed(t *testing.T) {
	p := picker(32)
	for range 40 {
		s := grown(t, &p, 80)
		b, _ := newBlaster(t, s)
		for range 4 {
			must[[]uint32](t)(b.Bits(1 + p.below(s.Len())))
		}
		words, told := rows(&p, b.Inputs())
		for k, want := range told {
			var in []bool
			for _, w := range words {
				in = append(in, w>>k&1 == 1)
			}
			slices.SortFunc(want, func(v, w api.Value) int { return strings.Compare(v.Name, w.Name) })
			is(t, "Lift", must[[]api.Value](t)(b.Lift(in)), want)
		}
	}
}

// Rule 4: what is handed out is the caller's.
func TestHandedOut(t *testing.T) {
	s, _ := newStore(t, "1 var k 3\n2 slice 1 0 2\n3 slice 1 1 2\n4 com 1\n5 zext 1 3\nroots 1\n")
	b, g := newBlaster(t, s)
	spoil := func(l []uint32) {
		for i := range l {
			l[i] = 99
		}
		_ = append(l[:cap(l)], 99)
		for i := range l[:cap(l)] {
			l[:cap(l)][i] = 99
		}
	}
	want := []string{"[2 4 6]", "[2 4]", "[4 6]", "[3 5 7]", "[2 4 6]"}
	for range 3 {
		for i, w := range want {
			l := must[[]uint32](t)(b.Bits(i + 1))
			is(t, "Bits", l, w)
			spoil(l)
		}
	}
	ins := b.Inputs()
	for i := range ins[:cap(ins)] {
		ins[:cap(ins)][i] = Input{"spoilt", 9, 9}
	}
	is(t, "Inputs", b.Inputs(), "[{k 3 0} {k 3 1} {k 3 2}]")
	in := []bool{true, false, true, true}[:3]
	v := must[[]api.Value](t)(b.Lift(in))
	is(t, "what was handed in", in[:4], "[true false true true]")
	in[0] = false
	is(t, "it is not kept", v, "[{k 3 5}]")
	for i := range v[:cap(v)] {
		v[:cap(v)][i] = api.Value{Name: "spoilt"}
	}
	is(t, "Lift", must[[]api.Value](t)(b.Lift(in)), "[{k 3 4}]")
	is(t, "the graph", look(t, g, 0), "0 i0 i1 i2")
}

// What is handed out stays as it was, whatever is asked for behind it.
func TestHandedOutStays(t *testing.T) {
	p := picker(33)
	s := grown(t, &p, 60)
	b := must[*Blaster](t)(New(s, aig.New()))
	var got [][]uint32
	var was []string
	var ins [][]Input
	var wasIns []string
	for n := 1; n <= s.Len(); n++ {
		l, in := must[[]uint32](t)(b.Bits(n)), b.Inputs()
		got, was = append(got, l), append(was, fmt.Sprint(l))
		ins, wasIns = append(ins, in), append(wasIns, fmt.Sprint(in))
	}
	for i := range got {
		is(t, "Bits", got[i], was[i])
		is(t, "Inputs", ins[i], wasIns[i])
	}
}

// The store is left as it was.
func TestStoreStays(t *testing.T) {
	p := picker(34)
	s := grown(t, &p, 60)
	all := make([]int, s.Len())
	for i := range all {
		all[i] = i + 1
	}
	before := must[string](t)(s.Dump(all...))
	b, _ := newBlaster(t, s)
	for _, n := range all {
		must[[]uint32](t)(b.Bits(n))
	}
	is(t, "terms", []any{s.Len(), must[string](t)(s.Dump(all...))}, []any{len(all), before})
}
