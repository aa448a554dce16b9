package eval

import (
	"errors"
	"maps"
	"slices"
	"strings"
	"testing"

	"cadence/api"
	"cadence/term"
)

// TestPut: what roots become, by hand.
func TestPut(t *testing.T) {
	x := newExample(t, 0)
	s := x.s
	one := word(t, s, 8, 1)
	truth := variable(t, s, "truth", 0)
	xOne, swapped := bin(t, s, api.OpAdd, x.x, one), bin(t, s, api.OpAdd, x.y, x.x)
	swappedQ := bin(t, s, api.OpEq, swapped, x.y)
	aY := bin(t, s, api.OpAdd, x.a, x.y)
	aYa := bin(t, s, api.OpEq, aY, x.a)
	length := s.Len()
	type names = []string
	for _, c := range []struct {
		what  string
		roots []int
		names names
		terms []int
		want  []int
	}{
		{"nothing", []int{x.q, x.a}, nil, nil, []int{x.q, x.a}},
		{"no root", nil, names{"x"}, []int{one}, nil},
		{"a name that the roots have not", []int{x.q}, names{"z", "truth"}, []int{one, x.q}, []int{x.q}},
		{"such a name of another sort", []int{x.q, truth}, names{"z"}, []int{truth}, []int{x.q, truth}},
		{"such a variable of another sort", []int{x.q}, names{"truth"}, []int{one}, []int{x.q}},
		{"a name that only another root has", []int{x.x}, names{"y"}, []int{truth}, []int{x.x}},
		{"a variable for itself", []int{x.q, x.x}, names{"x"}, []int{x.x}, []int{x.q, x.x}},
		{"each variable for itself", []int{x.q}, names{"y", "x"}, []int{x.y, x.x}, []int{x.q}},
		{"a root that is the variable", []int{x.y, x.a, x.y}, names{"y"}, []int{one}, []int{one, xOne, one}},
		{"variables for each other", []int{x.q, x.a, x.x}, names{"x", "y"}, []int{x.y, x.x}, []int{swappedQ, swapped, x.y}},
		{"a term that holds the variable", []int{x.q}, names{"x"}, []int{x.a}, []int{aYa}},
		{"a term that holds both", []int{x.x, x.y}, names{"x", "y"}, []int{x.a, x.x}, []int{x.a, x.x}},
		{"a truth for a truth", []int{truth}, names{"truth"}, []int{x.q}, []int{x.q}},
		{"one root twice, out of order", []int{x.a, x.y, x.a}, names{"y"}, []int{one}, []int{xOne, one, xOne}},
	} {
		wantTerms(t, c.what, told(Put(s, c.roots, c.names, c.terms)), c.want...)
	}
	if s.Len() != length {
		t.Error("terms were made that were there, or that nobody needs:", s.Len()-length)
	}
	// A node whose parts became others is made anew; what does not hang on the name stays.
	untouched := un(t, s, api.OpNeg, x.y)
	both := bin(t, s, api.OpMul, untouched, x.x)
	got, e := Put(s, []int{both}, []string{"x"}, []int{one})
	wantTerms(t, "both", told(got, e), s.Len())
	if n := nodeOf(s, s.Len()); n != (api.Node{Op: api.OpMul, W: 8, A: untouched, B: one}) {
		t.Error(n)
	}
}

// TestPutOrder: nodes are made in the order of term.Order of the roots.
func TestPutOrder(t *testing.T) {
	x := newExample(t, 0)
	one := word(t, x.s, 8, 1)
	negX, negY := un(t, x.s, api.OpNeg, x.x), un(t, x.s, api.OpNeg, x.y)
	wantTerms(t, "Put", told(Put(x.s, []int{negY, x.q, negX}, []string{"x", "y"}, []int{one, x.x})), negX, 9, 10)
	want := []api.Node{{Op: api.OpAdd, W: 8, A: one, B: x.x}, {Op: api.OpEq, A: 8, B: one}, {Op: api.OpNeg, W: 8, A: one}}
	for i, n := range want {
		if got := nodeOf(x.s, 8+i); got != n {
			t.Errorf("%d: %+v, not %+v", 8+i, got, n)
		}
	}
	if x.s.Len() != 10 {
		t.Error(x.s.Len())
	}
}

// TestPutErrors: each error, and the one that comes first where two apply; with one of arguments nothing is made.
func TestPutErrors(t *testing.T) {
	x := newExample(t, 4) // full
	before := shown(x.s)
	type names = []string
	for _, c := range []struct {
		what  string
		s     *term.Store
		roots []int
		names names
		terms []int
		want  api.Errno
	}{
		{"nil", nil, nil, nil, nil, api.ErrNil},
		{"nil ahead of no root", nil, []int{0}, names{""}, []int{0}, api.ErrNil},
		{"no root of several", x.s, []int{x.a, 9}, nil, nil, api.ErrTerm},
		{"no term of several", x.s, []int{x.a}, names{"x", "y"}, []int{x.x, 9}, api.ErrTerm},
		{"no term for a name that the roots have not", x.s, []int{x.a}, names{"z"}, []int{0}, api.ErrTerm},
		{"no term beyond the names", x.s, []int{x.a}, nil, []int{0}, api.ErrTerm},
		{"no root ahead of no name", x.s, []int{0}, names{"1"}, []int{x.x}, api.ErrTerm},
		{"no term ahead of no name", x.s, []int{x.a}, names{"1"}, []int{0}, api.ErrTerm},
		{"no term ahead of a name twice", x.s, []int{x.a}, names{"x", "x"}, []int{x.x, 0}, api.ErrTerm},
		{"a name twice", x.s, []int{x.a}, names{"x", "y", "x"}, []int{x.x, x.y, x.x}, api.ErrName},
		{"a name twice that the roots have not", x.s, []int{x.a}, names{"z", "z"}, []int{x.x, x.x}, api.ErrName},
		{"no name ahead of fewer terms", x.s, []int{x.a}, names{"x", "1"}, []int{x.x}, api.ErrName},
		{"a name twice ahead of more terms", x.s, []int{x.a}, names{"x", "x"}, []int{x.x, x.x, x.x}, api.ErrName},
		{"no name ahead of another sort", x.s, []int{x.a}, names{"x", "1"}, []int{x.q, x.x}, api.ErrName},
		{"fewer terms", x.s, []int{x.a}, names{"x", "y"}, []int{x.x}, api.ErrArg},
		{"no terms", x.s, []int{x.a}, names{"z"}, nil, api.ErrArg},
		{"more terms", x.s, []int{x.a}, names{"x"}, []int{x.x, x.y}, api.ErrArg},
		{"terms without names", x.s, nil, nil, []int{x.x}, api.ErrArg},
		{"fewer terms ahead of another sort", x.s, []int{x.a}, names{"x", "y"}, []int{x.q}, api.ErrArg},
		{"more terms ahead of another sort", x.s, []int{x.a}, names{"x"}, []int{x.q, x.q}, api.ErrArg},
		{"another sort", x.s, []int{x.a}, names{"x"}, []int{x.q}, api.ErrSort},
		{"another sort at the second root", x.s, []int{x.x, x.a}, names{"y"}, []int{x.q}, api.ErrSort},
		{"another sort ahead of a full store", x.s, []int{x.a}, names{"x", "y"}, []int{x.y, x.q}, api.ErrSort},
		{"a full store", x.s, []int{x.a}, names{"x"}, []int{x.y}, api.ErrSize},
		{"a full store at the second root", x.s, []int{x.x, x.a}, names{"x"}, []int{x.y}, api.ErrSize},
	} {
		wantRefused(t, c.what, told(Put(c.s, c.roots, c.names, c.terms)), c.want)
	}
	for _, no := range noTerms(x.s) {
		wantRefused(t, no, told(Put(x.s, []int{x.a, no, 0}, nil, nil)), api.ErrTerm)
		wantRefused(t, no, told(Put(x.s, []int{x.a}, names{"x"}, []int{no})), api.ErrTerm)
	}
	for _, name := range noNames {
		wantRefused(t, name, told(Put(x.s, []int{x.a}, names{"x", name}, []int{x.x, x.y})), api.ErrName)
	}
	if shown(x.s) != before {
		t.Error("the store has changed")
	}
	wantTerms(t, "full, and nothing is to be made", told(Put(x.s, []int{x.q, x.y}, names{"y", "z"}, []int{x.y, x.q})), x.q, x.y)
}

// TestPutSorts: a term of another sort is refused though no node would be wrong with it, and ahead of all that would be made.
func TestPutSorts(t *testing.T) {
	x := newExample(t, 0)
	wide, truth, one := word(t, x.s, 9, 1), variable(t, x.s, "truth", 0), word(t, x.s, 8, 1)
	same := bin(t, x.s, api.OpEq, x.x, x.x)
	neg := un(t, x.s, api.OpNeg, x.y)
	before := shown(x.s)
	for _, c := range []struct {
		what  string
		roots []int
		names []string
		terms []int
	}{
		{"a wider word", []int{x.a}, []string{"y"}, []int{wide}},
		{"a wider word, where each node takes it", []int{same}, []string{"x"}, []int{wide}},
		{"a truth, where each node takes it", []int{same}, []string{"x"}, []int{truth}},
		{"a truth for a root", []int{x.x}, []string{"x"}, []int{x.q}},
		{"a word for a root that is a truth", []int{truth}, []string{"truth"}, []int{one}},
		{"the second name", []int{neg, x.x}, []string{"y", "x"}, []int{one, truth}},
		{"the first name", []int{neg, x.x}, []string{"x", "y"}, []int{truth, one}},
	} {
		wantRefused(t, c.what, told(Put(x.s, c.roots, c.names, c.terms)), api.ErrSort)
	}
	if shown(x.s) != before {
		t.Error("the store has changed")
	}
}

// TestPutFull: what was made ahead of a refusal stays made.
func TestPutFull(t *testing.T) {
	for room := range 4 {
		x := newExample(t, 5+room)
		one := word(t, x.s, 8, 1)
		negA := api.Node{Op: api.OpNeg, W: 8}
		got := told(Put(x.s, []int{x.q, x.a}, []string{"x"}, []int{one}))
		switch {
		case room >= 2:
			wantTerms(t, room, got, 7, 6)
		default:
			wantRefused(t, room, got, api.ErrSize)
		}
		want := []api.Node{{Op: api.OpAdd, W: 8, A: one, B: x.y}, {Op: api.OpEq, A: 6, B: one}}
		for i := range min(room, 2) {
			if n := nodeOf(x.s, 6+i); n != want[i] {
				t.Errorf("room %d: %+v, not %+v", room, n, want[i])
			}
		}
		if x.s.Len() != 5+min(room, 2) {
			t.Errorf("room %d: %d terms", room, x.s.Len())
		}
		negA.A = x.a
		if _, e := x.s.Make(negA); (e == api.OK) != (room == 3) {
			t.Errorf("room %d: %v", room, e)
		}
	}
}

// TestPutAgainstPlain: mixed terms, in stores with and without room, against calls within one another.
func TestPutAgainstPlain(t *testing.T) {
	p := picker(17)
	seen := map[api.Errno]int{}
	for round := range 300 {
		whole := grown(t, &p, 20+round)
		for range 4 {
			roots := someRoots(&p, whole)
			instead := somethingInstead(&p, whole, roots)
			limit := pick(&p, 0, whole.Len(), whole.Len()+1, whole.Len()+1+p.below(10))
			s, other := likeIt(t, whole, limit), likeIt(t, whole, limit)
			names := slices.Sorted(maps.Keys(instead))
			var terms []int
			for _, name := range names {
				terms = append(terms, instead[name])
			}
			want := told(remaker{other, other, instead, map[int]int{}}.roots(roots))
			got := told(Put(s, roots, names, terms))
			if !got.is(want) || !isLike(s, other) {
				t.Fatalf("%v with %v: %v, not %v\n%s\n%s", roots, instead, got, want, shown(s), shown(other))
			}
			seen[got.e]++
		}
	}
	if seen[api.OK] < 100 || seen[api.ErrSize] < 100 {
		t.Error(seen)
	}
}

// somethingInstead: terms of their sorts for some of the variables of roots, and any for some others.
func somethingInstead(p *picker, s *term.Store, roots []int) map[string]int {
	instead := map[string]int{"nobody": 1 + p.below(s.Len())}
	for _, n := range varsOf(s, roots) {
		of := 1 + p.below(s.Len())
		for tries := 0; nodeOf(s, of).W != n.W; tries++ {
			if of = 1 + p.below(s.Len()); tries > 50 {
				of, _ = s.Var(n.Name, n.W)
			}
		}
		if p.below(3) > 0 {
			instead[n.Name] = of
		}
	}
	return instead
}

// TestCarry: by hand: into an empty store, one that holds some of the terms, and itself.
func TestCarry(t *testing.T) {
	x := newExample(t, 0)
	bin(t, x.s, api.OpMul, x.x, x.x) // not carried
	into := empty(t, 0)
	wantTerms(t, "no root", told(Carry(x.s, nil, into)))
	wantTerms(t, "carried", told(Carry(x.s, []int{x.a, x.q, x.y, x.a}, into)), 3, 4, 2, 3)
	if into.Len() != 4 {
		t.Error(into.Len())
	}
	wantTerms(t, "again", told(Carry(x.s, []int{x.q, x.x}, into)), 4, 1)
	if into.Len() != 4 {
		t.Error(into.Len())
	}
	some := empty(t, 0)
	word(t, some, 8, 1)
	y := variable(t, some, "y", 8)
	wantTerms(t, "some are there", told(Carry(x.s, []int{x.q, x.y}, some)), 5, y)
	want := []api.Node{
		{Op: api.OpConst, W: 8, Num: 1}, {Op: api.OpVar, W: 8, Name: "y"}, {Op: api.OpVar, W: 8, Name: "x"},
		{Op: api.OpAdd, W: 8, A: 3, B: 2}, {Op: api.OpEq, A: 4, B: 3},
	}
	for i, n := range want {
		if got := nodeOf(some, i+1); got != n {
			t.Errorf("%d: %+v, not %+v", i+1, got, n)
		}
	}
	before := shown(x.s)
	wantTerms(t, "into itself", told(Carry(x.s, []int{x.q, x.a, x.q}, x.s)), x.q, x.a, x.q)
	full := newExample(t, 4)
	wantTerms(t, "into itself, full", told(Carry(full.s, []int{full.q}, full.s)), full.q)
	wantTerms(t, "into one that is full of them", told(Carry(x.s, []int{x.q}, full.s)), full.q)
	if shown(x.s) != before {
		t.Error("the store has changed")
	}
	// A store is an object of its type even where New did not make it.
	wantTerms(t, "into the zero store", told(Carry(x.s, []int{x.q}, new(term.Store))), 4)
	wantTerms(t, "from the zero store", told(Carry(new(term.Store), nil, into)))
}

// TestCarryErrors: each error, and the one that comes first where two apply.
func TestCarryErrors(t *testing.T) {
	x := newExample(t, 0)
	full := empty(t, 1)
	other := variable(t, full, "y", 4)
	for _, c := range []struct {
		what  string
		s     *term.Store
		roots []int
		into  *term.Store
		want  api.Errno
	}{
		{"nil both", nil, nil, nil, api.ErrNil},
		{"nil from", nil, nil, full, api.ErrNil},
		{"nil into", x.s, nil, nil, api.ErrNil},
		{"nil from ahead of no term", nil, []int{0}, full, api.ErrNil},
		{"nil into ahead of no term", x.s, []int{0}, nil, api.ErrNil},
		{"nil into, terms", x.s, []int{x.q}, nil, api.ErrNil},
		{"no term ahead of a full store", x.s, []int{x.a, 0}, full, api.ErrTerm},
		{"no term ahead of another width", x.s, []int{x.y, 5}, full, api.ErrTerm},
		{"a full store", x.s, []int{x.x}, full, api.ErrSize},
		{"another width", x.s, []int{x.y}, full, api.ErrName},
		{"another width ahead of a full store", x.s, []int{x.y, x.x}, full, api.ErrName},
		{"a full store ahead of another width", x.s, []int{x.a}, full, api.ErrSize},
	} {
		wantRefused(t, c.what, told(Carry(c.s, c.roots, c.into)), c.want)
	}
	for _, no := range noTerms(x.s) {
		wantRefused(t, no, told(Carry(x.s, []int{x.a, no, 0}, empty(t, 0))), api.ErrTerm)
	}
	// A term of the other store is none of this one.
	wantTerms(t, "the other way", told(Carry(full, []int{other}, empty(t, 0))), 1)
	wantRefused(t, "no term of the first", told(Carry(full, []int{2}, x.s)), api.ErrTerm)
	for room := range 5 {
		into := empty(t, 1+room)
		s := likeIt(t, x.s, 0)
		truth := mk(t, into, api.Node{Op: api.OpTrue})
		got := told(Carry(s, []int{x.y, x.q}, into))
		if room == 4 {
			wantTerms(t, room, got, 2, 5)
		} else {
			wantRefused(t, room, got, api.ErrSize)
		}
		names := ""
		for i := truth; i < into.Len(); i++ {
			names += nodeOf(into, i+1).Name + ","
		}
		if want := "y,x,,,"; into.Len() != 1+room || !strings.HasPrefix(want, names) {
			t.Errorf("room %d: %q", room, names)
		}
	}
	// What was made ahead of a variable of another width stays made, too.
	into := empty(t, 0)
	variable(t, into, "y", 4)
	wantRefused(t, "another width", told(Carry(x.s, []int{x.q}, into)), api.ErrName)
	if into.Len() != 2 || nodeOf(into, 2).Name != "x" {
		t.Error(shown(into))
	}
}

// TestCarryAgainstPlain: mixed terms into stores of others, with and without room.
func TestCarryAgainstPlain(t *testing.T) {
	p := picker(23)
	seen := map[api.Errno]int{}
	for round := range 300 {
		s := grown(t, &p, 20+round)
		target := empty(t, 0)
		if p.below(2) == 0 {
			target = grown(t, &p, 30)
		} else if p.below(2) == 0 {
			variable(t, target, "w3", 9)
		}
		for range 4 {
			roots := someRoots(&p, s)
			limit := pick(&p, 0, target.Len()+1, target.Len()+1+p.below(10))
			into, other := likeIt(t, target, limit), likeIt(t, target, limit)
			before := likeIt(t, s, 0)
			want := told(remaker{s, other, nil, map[int]int{}}.roots(roots))
			got := told(Carry(s, roots, into))
			if !got.is(want) || !isLike(into, other) || !isLike(s, before) {
				t.Fatalf("%v: %v, not %v", roots, got, want)
			}
			seen[got.e]++
		}
	}
	if seen[api.OK] < 100 || seen[api.ErrSize] < 100 || seen[api.ErrName] < 10 {
		t.Error(seen)
	}
}

// TestRefusal: a store's refusal wraps its number.
func TestRefusal(t *testing.T) {
	s := newExample(t, 4).s
	_, err := makeIn(s, api.Node{Op: api.OpTrue})
	if !errors.Is(err, api.ErrSize) || codeOf(err) != api.ErrSize || !strings.Contains(err.Error(), api.ErrSize.Error()) {
		t.Error(err)
	}
	if _, err := makeIn(s, nodeOf(s, 1)); err != nil || codeOf(err) != api.OK {
		t.Error(err)
	}
}
