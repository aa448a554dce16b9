package eval

import (
	"maps"
	"slices"
	"sync"
	"testing"

	"cadence/api"
	"cadence/term"
)

// valuesOf: of roots that must have them.
func valuesOf(t testing.TB, s *term.Store, roots []int, vals []api.Value) []uint64 {
	t.Helper()
	values, e := Values(s, roots, vals)
	if e != api.OK || len(values) != len(roots) {
		t.Fatalf("%v with %v: %v %v", roots, vals, values, e)
	}
	return values
}

// TestOthersToldOtherwise: P801.
func TestOthersToldOtherwise(t *testing.T) {
	p := picker(31)
	for round := range 200 {
		s := grown(t, &p, 20+round)
		roots := someRoots(&p, s)
		vals := somethingTold(&p, s, roots)
		want := valuesOf(t, s, roots, vals)
		has := varsOf(s, roots)
		for range 5 {
			others := slices.DeleteFunc(slices.Clone(vals), func(v api.Value) bool {
				return !slices.ContainsFunc(has, func(n api.Node) bool { return n.Name == v.Name })
			})
			for i := range s.Len() { // variables of the store that the roots have not, with any W
				if n := nodeOf(s, i+1); n.Op == api.OpVar && !slices.Contains(has, n) && p.below(2) == 0 {
					w := pick(&p, n.W, 5, 0, 64)
					others = append(others, val(n.Name, w, someWord(&p, w)))
				}
			}
			others = append(others, val("somebody", 64, p.next()))
			slices.Reverse(others)
			if got := valuesOf(t, s, roots, others); !slices.Equal(got, want) {
				t.Fatalf("%v with %v: %v, not %v", roots, others, got, want)
			}
		}
		// A variable that is not told is as one that is told as 0.
		zeros := slices.Clone(vals)
		for _, n := range has {
			if !slices.ContainsFunc(vals, func(v api.Value) bool { return v.Name == n.Name }) {
				zeros = append(zeros, val(n.Name, n.W, 0))
			}
		}
		if got := valuesOf(t, s, roots, zeros); !slices.Equal(got, want) {
			t.Fatalf("%v with %v: %v, not %v", roots, zeros, got, want)
		}
	}
}

// TestValueOfPut: P802.
func TestValueOfPut(t *testing.T) {
	p := picker(37)
	for round := range 200 {
		s := grown(t, &p, 20+round)
		roots := someRoots(&p, s)
		instead := somethingInstead(&p, s, roots)
		delete(instead, "nobody")
		names := slices.Sorted(maps.Keys(instead))
		var terms []int
		for _, name := range names {
			terms = append(terms, instead[name])
		}
		made, e := Put(s, roots, names, terms)
		if e != api.OK {
			t.Fatal(e)
		}
		for range 5 {
			vals := somethingTold(&p, s, slices.Concat(roots, terms))
			with := slices.DeleteFunc(slices.Clone(vals), func(v api.Value) bool { return instead[v.Name] > 0 })
			for i, x := range valuesOf(t, s, terms, vals) {
				with = append(with, val(names[i], nodeOf(s, terms[i]).W, x))
			}
			if got, want := valuesOf(t, s, made, vals), valuesOf(t, s, roots, with); !slices.Equal(got, want) {
				t.Fatalf("%v with %v put in, %v told: %v, not %v", roots, instead, vals, got, want)
			}
		}
	}
}

// TestCarryKeeps: P803.
func TestCarryKeeps(t *testing.T) {
	p := picker(41)
	for round := range 200 {
		s := grown(t, &p, 20+round)
		roots := someRoots(&p, s)
		into := empty(t, 0)
		for range p.below(4) {
			into.Const(64, p.next()) // other numbers there
			into.Un(api.OpNeg, into.Len())
		}
		made, e := Carry(s, roots, into)
		if e != api.OK {
			t.Fatal(e)
		}
		want, _ := s.Dump(roots...)
		if got, e := into.Dump(made...); got != want || e != api.OK {
			t.Fatalf("%v: %q %v, not %q", roots, got, e, want)
		}
		vals := somethingTold(&p, s, roots)
		if got, want := valuesOf(t, into, made, vals), valuesOf(t, s, roots, vals); !slices.Equal(got, want) {
			t.Fatalf("%v with %v: %v, not %v", roots, vals, got, want)
		}
		back, e := Carry(into, made, s)
		wantTerms(t, "there and back", told(back, e), roots...)
	}
}

// TestPutOfNothing: P804.
func TestPutOfNothing(t *testing.T) {
	p := picker(43)
	for round := range 200 {
		s := grown(t, &p, 20+round)
		s = likeIt(t, s, s.Len()) // nothing more may be made
		roots := someRoots(&p, s)
		wantTerms(t, "nothing", told(Put(s, roots, nil, nil)), roots...)
		var names []string
		var terms []int
		for _, n := range varsOf(s, roots) {
			names = append(names, n.Name)
			terms = append(terms, mk(t, s, n))
		}
		wantTerms(t, "each for itself", told(Put(s, roots, names, terms)), roots...)
	}
}

// TestSplitThereAndBack: P805.
func TestSplitThereAndBack(t *testing.T) {
	p := picker(47)
	for round := range 200 {
		s := grown(t, &p, 20+round)
		roots := someRoots(&p, s)
		var names, tailed, twice []string
		var was []int
		for _, n := range varsOf(s, roots) {
			if p.below(3) > 0 {
				names, tailed, twice = append(names, n.Name), append(tailed, n.Name+"_b"), append(twice, n.Name+"_b_c")
				was = append(was, mk(t, s, n))
			}
		}
		vals := somethingTold(&p, s, roots)
		renamed := func(to []string) []api.Value {
			others := slices.Clone(vals)
			for i, v := range others {
				if at := slices.Index(names, v.Name); at >= 0 {
					others[i].Name = to[at]
				}
			}
			return others
		}
		want := valuesOf(t, s, roots, vals)
		made, e := Split(s, roots, names, "_b")
		if e != api.OK {
			t.Fatal(e)
		}
		if got := valuesOf(t, s, made, renamed(tailed)); !slices.Equal(got, want) {
			t.Fatalf("%v of %v: %v, not %v", names, roots, got, want)
		}
		again, e := Split(s, made, tailed, "_c")
		if e != api.OK {
			t.Fatal(e)
		}
		if got := valuesOf(t, s, again, renamed(twice)); !slices.Equal(got, want) {
			t.Fatalf("%v of %v: %v, not %v", tailed, made, got, want)
		}
		wantTerms(t, "back", told(Put(s, made, tailed, was)), roots...)
		wantTerms(t, "back from twice", told(Put(s, again, twice, was)), roots...)
	}
}

// guarded: a list with spare room, which nobody may write to.
func guarded[T any](list []T, mark T) []T {
	g := append(make([]T, 0, len(list)+3), list...)
	for i := range 3 {
		g[:cap(g)][len(g)+i] = mark
	}
	return g
}

// intact: is a guarded list as it was, its spare room too?
func intact[T comparable](g, list []T, mark T) bool {
	return slices.Equal(g, list) && slices.Equal(g[:len(g)+3][len(g):], []T{mark, mark, mark})
}

// spoil writes over all of a list, its spare room too, and beyond.
func spoil[T any](list []T, with T) {
	list = list[:cap(list)]
	for i := range list {
		list[i] = with
	}
	_ = append(list, with)
}

// TestHanded: what is handed in stays as it is; what is handed out is the caller's.
func TestHanded(t *testing.T) {
	x := newExample(t, 0)
	one := word(t, x.s, 8, 1)
	rootsAre, namesAre, termsAre := []int{x.q, x.a, x.x}, []string{"y", "x"}, []int{one, x.a}
	valsAre := []api.Value{val("y", 8, 9), val("x", 8, 250)}
	into := empty(t, 0)
	for range 3 {
		roots, names, terms, vals := guarded(rootsAre, -7), guarded(namesAre, "mark"), guarded(termsAre, -7), guarded(valsAre, val("mark", 1, 1))
		values, e := Values(x.s, roots, vals)
		if !slices.Equal(values, []uint64{0, 3, 250}) || e != api.OK {
			t.Error(values, e)
		}
		spoil(values, 77)
		vars, e := Vars(x.s, roots)
		if !slices.Equal(vars, []api.Value{val("x", 8, 0), val("y", 8, 0)}) || e != api.OK {
			t.Error(vars, e)
		}
		spoil(vars, val("spoilt", 3, 3))
		nothing := told(Put(x.s, roots, nil, nil))
		wantTerms(t, "Put of nothing", nothing, rootsAre...)
		spoil(nothing.terms, 77)
		put := told(Put(x.s, roots, names, terms))
		wantTerms(t, "Put", put, 7, 6, x.a)
		spoil(put.terms, 77)
		carried := told(Carry(x.s, roots, into))
		wantTerms(t, "Carry", carried, 4, 3, 1)
		spoil(carried.terms, 77)
		carried = told(Carry(x.s, roots, x.s))
		wantTerms(t, "Carry into itself", carried, rootsAre...)
		spoil(carried.terms, 77)
		split := told(Split(x.s, roots, names, "2"))
		wantTerms(t, "Split", split, 11, 10, 9)
		spoil(split.terms, 77)
		same := told(Split(x.s, roots, nil, "2"))
		wantTerms(t, "Split of nothing", same, rootsAre...)
		spoil(same.terms, 77)
		if !intact(roots, rootsAre, -7) || !intact(names, namesAre, "mark") || !intact(terms, termsAre, -7) || !intact(vals, valsAre, val("mark", 1, 1)) {
			t.Error("what was handed in has changed:", roots, names, terms, vals)
		}
	}
	if x.s.Len() != 11 || into.Len() != 4 {
		t.Error(x.s.Len(), into.Len())
	}
}

// TestNotKept: what was told, or put in, for one call says nothing to the next; what the caller writes later neither.
func TestNotKept(t *testing.T) {
	x := newExample(t, 0)
	vals := []api.Value{val("x", 8, 3)}
	wantValue(t, x.s, x.a, vals, 3, api.OK)
	vals[0].Num = 4
	wantValue(t, x.s, x.a, vals, 4, api.OK)
	wantValue(t, x.s, x.a, nil, 0, api.OK)
	bytes := []byte("name")
	into := empty(t, 0)
	name := variable(t, x.s, string(bytes), 8)
	names := []string{"name"}
	wantTerms(t, "Split", told(Split(x.s, []int{name}, names, "2")), name+1)
	names[0] = "other"
	wantTerms(t, "Carry", told(Carry(x.s, []int{name + 1}, into)), 1)
	if n := nodeOf(into, 1); n.Name != "name2" {
		t.Error(n)
	}
}

// TestSideBySide: calls that only look may go on at the same time, and say the same.
func TestSideBySide(t *testing.T) {
	p := picker(53)
	s := grown(t, &p, 300)
	roots := []int{s.Len(), s.Len() - 5, s.Len() - 9}
	vals := somethingTold(&p, s, roots)
	want := valuesOf(t, s, roots, vals)
	text, _ := s.Dump(roots...)
	var all sync.WaitGroup
	for range 8 {
		all.Go(func() {
			into, _ := term.New(0)
			for range 20 {
				got, e := Values(s, roots, vals)
				made, bad := Carry(s, roots, into)
				dump, _ := into.Dump(made...)
				if !slices.Equal(got, want) || e != api.OK || bad != api.OK || dump != text {
					t.Error(got, e, bad)
				}
			}
		})
	}
	all.Wait()
}
