package eval

import (
	"fmt"
	"strings"
	"testing"

	"cadence/api"
	"cadence/term"
)

// TestSplit: by hand.
func TestSplit(t *testing.T) {
	x := newExample(t, 0)
	s := x.s
	wantTerms(t, "no name", told(Split(s, []int{x.q, x.a}, nil, "2")), x.q, x.a)
	wantTerms(t, "no name, and a tail that makes none", told(Split(s, []int{x.q}, nil, "-")), x.q)
	wantTerms(t, "no root", told(Split(s, nil, []string{"x"}, "2")))
	wantTerms(t, "names that the roots have not", told(Split(s, []int{x.x}, []string{"z", "y"}, "2")), x.x)
	wantTerms(t, "an empty tail", told(Split(s, []int{x.q, x.y}, []string{"y", "x"}, "")), x.q, x.y)
	if s.Len() != 4 {
		t.Fatal("a variable was made that no root asks for:", shown(s))
	}
	got := told(Split(s, []int{x.q, x.y}, []string{"z", "y", "x"}, "_2"))
	wantTerms(t, "both", got, 8, 5)
	want := []api.Node{
		{Op: api.OpVar, W: 8, Name: "y_2"}, {Op: api.OpVar, W: 8, Name: "x_2"},
		{Op: api.OpAdd, W: 8, A: 6, B: 5}, {Op: api.OpEq, A: 7, B: 6},
	}
	for i, n := range want {
		if got := nodeOf(s, 5+i); got != n {
			t.Errorf("%d: %+v, not %+v", 5+i, got, n)
		}
	}
	wantTerms(t, "again", told(Split(s, []int{x.q, x.y}, []string{"x", "y"}, "_2")), 8, 5)
	if s.Len() != 8 {
		t.Error(s.Len())
	}
	// What is put in is not split again, though it has a name of the list.
	both := bin(t, s, api.OpSub, x.y, 5)
	got = told(Split(s, []int{both}, []string{"y", "y_2"}, "_2"))
	wantTerms(t, "a name with the tail beside it", got, 11)
	if n := nodeOf(s, 11); n != (api.Node{Op: api.OpSub, W: 8, A: 5, B: 10}) || nodeOf(s, 10).Name != "y_2_2" {
		t.Error(shown(s))
	}
}

// TestSplitSorts: truths, and words of each width, keep their W.
func TestSplitSorts(t *testing.T) {
	for w := range 65 {
		s := empty(t, 0)
		k := variable(t, s, "k", w)
		q := bin(t, s, api.OpEq, k, k)
		wantTerms(t, w, told(Split(s, []int{q, k}, []string{"k"}, "b")), 4, 3)
		if n := nodeOf(s, 3); n != (api.Node{Op: api.OpVar, W: w, Name: "kb"}) {
			t.Error(w, n)
		}
	}
}

// TestSplitErrors: each error, and the one that comes first where two apply.
func TestSplitErrors(t *testing.T) {
	x := newExample(t, 6)
	variable(t, x.s, "x4", 4)
	variable(t, x.s, "y0", 0) // full
	before := shown(x.s)
	type names = []string
	for _, c := range []struct {
		what  string
		s     *term.Store
		roots []int
		names names
		tail  string
		want  api.Errno
	}{
		{"nil", nil, nil, nil, "", api.ErrNil},
		{"nil ahead of no term", nil, []int{0}, names{""}, "-", api.ErrNil},
		{"no term of several", x.s, []int{x.a, 9}, nil, "", api.ErrTerm},
		{"no term ahead of no name", x.s, []int{0}, names{""}, "", api.ErrTerm},
		{"no term ahead of a wrong tail", x.s, []int{0}, names{"x"}, "-", api.ErrTerm},
		{"a name twice", x.s, []int{x.a}, names{"x", "y", "x"}, "2", api.ErrName},
		{"a name twice that the roots have not", x.s, []int{x.a}, names{"z", "z"}, "2", api.ErrName},
		{"no name that the tail makes one", x.s, []int{x.a}, names{""}, "x", api.ErrName},
		{"a wrong tail", x.s, []int{x.a}, names{"x"}, "-", api.ErrName},
		{"a wrong tail, of a name that the roots have not", x.s, []int{x.a}, names{"z"}, " ", api.ErrName},
		{"a wrong tail, no root", x.s, nil, names{"z"}, "\x00", api.ErrName},
		{"a tail of 24 bytes", x.s, []int{x.a}, names{"x"}, strings.Repeat("a", 24), api.ErrName},
		{"a tail of very many bytes", x.s, []int{x.a}, names{"x", "y"}, strings.Repeat("a", 1<<20), api.ErrName},
		{"too long with the tail, the second", x.s, []int{x.a}, names{"x", "abcdefghijklmnopqrstuvw"}, "12", api.ErrName},
		{"a full store", x.s, []int{x.a}, names{"x"}, "2", api.ErrSize},
		{"a tail of 23 bytes, a full store", x.s, []int{x.a}, names{"x"}, strings.Repeat("a", 23), api.ErrSize},
		{"another width there", x.s, []int{x.a}, names{"x"}, "4", api.ErrName},
		{"a truth there", x.s, []int{x.a}, names{"y"}, "0", api.ErrName},
		{"another width there, of a name that the roots have not", x.s, []int{x.y}, names{"x"}, "4", api.OK},
		{"a full store ahead of another width", x.s, []int{x.a}, names{"y", "x"}, "4", api.ErrSize},
		{"another width ahead of a full store", x.s, []int{x.a}, names{"x", "y"}, "4", api.ErrName},
	} {
		got := told(Split(c.s, c.roots, c.names, c.tail))
		if c.want == api.OK {
			wantTerms(t, c.what, got, c.roots...)
		} else {
			wantRefused(t, c.what, got, c.want)
		}
	}
	for _, no := range noTerms(x.s) {
		wantRefused(t, no, told(Split(x.s, []int{x.a, no, 0}, nil, "")), api.ErrTerm)
	}
	for _, name := range noNames {
		wantRefused(t, name, told(Split(x.s, []int{x.a}, names{"x", name}, "")), api.ErrName)
	}
	if shown(x.s) != before {
		t.Error("the store has changed")
	}
}

// TestSplitFull: what was made stays made, and the errors of arguments come ahead of all that is made.
func TestSplitFull(t *testing.T) {
	for room := range 5 {
		x := newExample(t, 4+room)
		wantRefused(t, "a wrong name behind a right one", told(Split(x.s, []int{x.q}, []string{"x", "abcdefghijklmnopqrstuvwx"}, "2")), api.ErrName)
		if x.s.Len() != 4 {
			t.Error("something was made")
		}
		got := told(Split(x.s, []int{x.q}, []string{"y", "x"}, "2"))
		if room == 4 {
			wantTerms(t, room, got, 8)
		} else {
			wantRefused(t, room, got, api.ErrSize)
		}
		made := ""
		for i := 4; i < x.s.Len(); i++ {
			made += fmt.Sprint(nodeOf(x.s, i+1).Op, nodeOf(x.s, i+1).Name, " ")
		}
		if want := "4y2 4x2 20 9 "; x.s.Len() != 4+room || !strings.HasPrefix(want, made) {
			t.Errorf("room %d: %q", room, made)
		}
	}
	x := newExample(t, 0)
	variable(t, x.s, "y2", 9)
	wantRefused(t, "another width", told(Split(x.s, []int{x.q}, []string{"x", "y"}, "2")), api.ErrName)
	if x.s.Len() != 6 || nodeOf(x.s, 6).Name != "x2" {
		t.Error(shown(x.s))
	}
}

// TestSplitAgainstPlain: mixed terms, in stores with and without room, against the chapter's words: Var by Var, then Put.
func TestSplitAgainstPlain(t *testing.T) {
	p := picker(29)
	seen := map[api.Errno]int{}
	for round := range 300 {
		whole := grown(t, &p, 20+round)
		for range 4 {
			roots := someRoots(&p, whole)
			names := []string{"nobody"}
			for _, n := range varsOf(whole, roots) {
				if p.below(3) > 0 {
					names = append(names, n.Name)
				}
			}
			tail := pick(&p, "", "1", "0", "_")
			limit := pick(&p, 0, whole.Len(), whole.Len()+1+p.below(20))
			s, other := likeIt(t, whole, limit), likeIt(t, whole, limit)
			want := plainSplit(other, roots, names, tail)
			got := told(Split(s, roots, names, tail))
			if !got.is(want) || !isLike(s, other) {
				t.Fatalf("%v of %v with %q: %v, not %v", names, roots, tail, got, want)
			}
			seen[got.e]++
		}
	}
	if seen[api.OK] < 100 || seen[api.ErrSize] < 100 || seen[api.ErrName] < 10 {
		t.Error(seen)
	}
}

func plainSplit(s *term.Store, roots []int, names []string, tail string) answer {
	instead := map[string]int{}
	for _, name := range names {
		for _, n := range varsOf(s, roots) {
			if n.Name != name {
				continue
			}
			made, e := s.Var(name+tail, n.W)
			if e != api.OK {
				return answer{nil, e}
			}
			instead[name] = made
		}
	}
	return told(remaker{s, s, instead, map[int]int{}}.roots(roots))
}
