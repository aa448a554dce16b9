package term

import (
	"fmt"
	"math"
	"slices"
	"strings"
	"sync"
	"testing"

	"cadence/api"
)

// someNode: a node that is right more often than not, over a store of some terms.
func someNode(p *picker, s *plain) api.Node {
	part := func() int {
		if p.below(20) == 0 {
			return pick(p, 0, -1, len(s.nodes)+1, math.MaxInt)
		}
		return 1 + p.below(len(s.nodes)+1)
	}
	r := pick(p, rows...)
	n := api.Node{Op: r.op}
	for i := range r.parts {
		*[]*int{&n.A, &n.B, &n.C}[i] = part()
	}
	n = s.meant(n)
	switch r.word {
	case "const":
		n.W = pick(p, 1, 3, 4, 8, 64)
		n.Num = pick[uint64](p, 0, 1, 7, 8, 255, 256, math.MaxUint64)
	case "var":
		n.W = pick(p, 0, 1, 3, 4, 8, 64)
		n.Name = pick(p, "a", "b", "c", "d", "e", "roots", "")
	case "slice":
		n.W, n.Num = p.below(9), uint64(p.below(9))
	case "zext", "sext":
		n.W = p.below(66)
	}
	switch p.below(40) {
	case 0:
		n.W = pick(p, -1, 0, 65, 7)
	case 1:
		n.C = 1
	case 2:
		n.Num++
	case 3:
		n.Name = "z"
	}
	return n
}

// grown: a store and a plain one that were asked the same, call by call.
func grown(t *testing.T, p *picker, limit, calls int) (*Store, *plain) {
	t.Helper()
	s, plainly := empty(t, limit), &plain{limit: limit}
	for range calls {
		n := someNode(p, plainly)
		want := told(plainly.make(n))
		if got := told(s.Make(n)); got != want {
			t.Fatalf("%+v: %v, not %v", n, got, want)
		}
		if s.Len() != len(plainly.nodes) {
			t.Fatalf("%+v: %d terms, not %d", n, s.Len(), len(plainly.nodes))
		}
	}
	for i, want := range plainly.nodes {
		if n, e := s.Node(i + 1); n != want || e != api.OK {
			t.Fatalf("%d: %+v %v, not %+v", i+1, n, e, want)
		}
	}
	return s, plainly
}

// someRoots: of a store, in any order, some twice.
func someRoots(p *picker, s *Store) []int {
	var roots []int
	for range p.below(5) {
		if s.Len() > 0 {
			roots = append(roots, 1+p.below(s.Len()))
		}
	}
	return roots
}

// TestAgainstPlain: stores, orders and texts against a plain reading of the chapter.
func TestAgainstPlain(t *testing.T) {
	p := picker(7)
	terms := 0
	for round := range 300 {
		s, plainly := grown(t, &p, pick(&p, 0, 0, 1, 30), 20+round)
		terms += s.Len()
		for range 10 {
			roots := someRoots(&p, s)
			order, e := s.Order(roots...)
			if want, bad := plainly.order(roots...); !slices.Equal(order, want) || e != bad {
				t.Fatalf("Order(%v): %v %v, not %v %v", roots, order, e, want, bad)
			}
			text, e := s.Dump(roots...)
			if want, bad := plainly.dump(roots...); text != want || e != bad {
				t.Fatalf("Dump(%v): %q %v, not %q %v", roots, text, e, want, bad)
			}
			checkThereAndBack(t, s, text, roots)
			sameLoad(t, text)
			sameLoad(t, damaged(&p, text))
		}
	}
	if terms < 5000 {
		t.Errorf("the stores have %d terms in all", terms)
	}
}

// checkThereAndBack: Load of a Dump has the same terms (P708).
func checkThereAndBack(t *testing.T, s *Store, text string, roots []int) {
	t.Helper()
	order, _ := s.Order(roots...)
	x, back, line, e := Load(text, len(order))
	if e != api.OK || line != 0 || len(back) != len(roots) || x.Len() != len(order) {
		t.Fatalf("%q: %v, line %d, %v", text, back, line, e)
	}
	if again, e := x.Dump(back...); again != text || e != api.OK {
		t.Fatalf("%q became %q %v", text, again, e)
	}
	for i, old := range order {
		was, _ := s.Node(old)
		is, _ := x.Node(i + 1)
		if was.Op != is.Op || was.W != is.W || was.Num != is.Num || was.Name != is.Name {
			t.Fatalf("%+v became %+v", was, is)
		}
	}
	if len(order) > 1 {
		if _, _, line, e := Load(text, len(order)-1); e != api.ErrSize || line != len(order) {
			t.Fatalf("%q with one term too few: line %d, %v", text, line, e)
		}
	}
}

// damaged: a text in which some words became others, or lines changed.
func damaged(p *picker, text string) string {
	lines := strings.Split(text, "\n")
	for range 1 + p.below(2) {
		at := p.below(len(lines))
		words := strings.Split(lines[at], " ")
		word := p.below(len(words))
		switch p.below(7) {
		case 0:
			words[word] = pick(p, "0", "1", "2", "7", "8", "64", "65", "0x4", "2147483647", "2147483648", "x", "", "-1", "roots")
		case 1:
			words[word] = rows[p.below(len(rows))].word
		case 2:
			words = append(words, pick(p, "1", "", "x"))
		case 3:
			words = words[:len(words)-1]
		case 4:
			other := p.below(len(lines))
			lines[at], lines[other] = lines[other], lines[at]
			continue
		case 5:
			words = append([]string{"", ""}, words...)
		case 6:
			lines = slices.Insert(lines, at, lines[p.below(len(lines))])
			continue
		}
		lines[at] = strings.Join(words, " ")
	}
	return strings.Join(lines, "\n")
}

// TestHandedOut: what is handed out is the caller's: written over and grown, it changes nothing.
func TestHandedOut(t *testing.T) {
	s := shared(t)
	before := shown(s)
	first, _ := s.Order(7, 5)
	want := slices.Clone(first)
	text, _ := s.Dump(7, 5)
	scribble(first)
	second, _ := s.Order(7, 5)
	if !slices.Equal(second, want) {
		t.Errorf("%v, not %v", second, want)
	}
	scribble(first)
	if !slices.Equal(second, want) || shown(s) != before {
		t.Error("two answers share memory")
	}
	if again, _ := s.Dump(7, 5); again != text {
		t.Errorf("%q, not %q", again, text)
	}
	n, _ := s.Node(3)
	n.A, n.Name = 99, "other"
	if shown(s) != before {
		t.Error("a node that was handed out is the store's")
	}
	x, roots, _, _ := Load(text, 0)
	loaded := shown(x)
	scribble(roots)
	if shown(x) != loaded {
		t.Error("the roots that were handed out are the store's")
	}
}

// scribble writes over a list, and into its spare room.
func scribble(list []int) {
	list = list[:cap(list)]
	for i := range list {
		list[i] = -7
	}
}

// TestHandedIn: roots are not changed, nor is their spare room, and they are not kept.
func TestHandedIn(t *testing.T) {
	s := shared(t)
	roots := make([]int, 3, 8)
	copy(roots, []int{7, 5, 7})
	whole := append(roots, 91, 92, 93, 94, 95)
	was := slices.Clone(whole)
	order, _ := s.Order(roots...)
	text, _ := s.Dump(roots...)
	if !slices.Equal(whole, was) {
		t.Errorf("the roots became %v", whole)
	}
	scribble(roots)
	if again, _ := s.Order(7, 5, 7); !slices.Equal(again, order) {
		t.Error(again)
	}
	if again, _ := s.Dump(7, 5, 7); again != text {
		t.Error(again)
	}
	scribble(order)
	if !slices.Equal(roots, []int{-7, -7, -7}) {
		t.Error("the order shares memory with the roots")
	}
}

// TestNamesAreKept: a variable's name is the store's, whatever becomes of the bytes from which it was made.
func TestNamesAreKept(t *testing.T) {
	s := empty(t, 0)
	name := []byte("key")
	wantSame(t, "key", told(s.Var(string(name), 8)), answer{1, api.OK})
	copy(name, "xyz")
	if n, _ := s.Node(1); n.Name != "key" {
		t.Error(n.Name)
	}
	wantSame(t, "key", told(s.Var("key", 8)), answer{1, api.OK})
	wantSame(t, "key of another width", told(s.Var("key", 9)), answer{0, api.ErrName})
	wantSame(t, "xyz", told(s.Var(string(name), 9)), answer{2, api.OK})
}

// TestRefusedChangesNothing: a call with an error leaves the store as it was, whichever call.
func TestRefusedChangesNothing(t *testing.T) {
	s := shared(t)
	before := shown(s)
	calls := []answer{
		told(s.Make(api.Node{})), told(s.Const(0, 1)), told(s.Var("k", 4)), told(s.Var("new", 65)), told(s.Var("?", 1)),
		told(s.Un(api.OpNot, 1)), told(s.Bin(api.OpAdd, 1, 6)), told(s.Ite(1, 1, 1)), told(s.Slice(1, 8, 1)),
		told(s.Ext(api.OpZext, 1, 7)), told(s.Bin(api.OpCat, 1, 9)), told(s.Ext(api.OpCat, 1, 16)),
	}
	for i, a := range calls {
		if a.t != 0 || a.e == api.OK {
			t.Errorf("call %d: %v", i, a)
		}
	}
	if shown(s) != before {
		t.Error("it has changed")
	}
	// A name that was refused for its width is free.
	wantSame(t, "new", told(s.Var("new", 3)), answer{9, api.OK})
}

// TestTwoStores: what one store is asked the other does not see; the same calls have the same answers.
func TestTwoStores(t *testing.T) {
	a, b := empty(t, 0), empty(t, 0)
	put(t, a, variable("k", 8))
	if b.Len() != 0 {
		t.Error("the other store has a term")
	}
	wantSame(t, "k of another width, in another store", told(b.Var("k", 4)), answer{1, api.OK})
	for range 3 {
		p := picker(11)
		first, _ := grown(t, &p, 0, 200)
		p = picker(11)
		second, _ := grown(t, &p, 0, 200)
		if shown(first) != shown(second) {
			t.Fatal("the same calls, another store")
		}
	}
}

// TestSideBySide: stores of their own, and one store that is only looked at, by several at a time.
func TestSideBySide(t *testing.T) {
	p := picker(5)
	common, _ := grown(t, &p, 0, 300)
	want, _ := common.Dump(common.Len(), 1)
	var all sync.WaitGroup
	told := make([]string, 8)
	for i := range told {
		all.Go(func() {
			text, _ := common.Dump(common.Len(), 1)
			order, _ := common.Order(common.Len(), 1)
			x, roots, _, e := Load(text, 0)
			own, _ := x.Dump(roots...)
			told[i] = fmt.Sprint(text == own, len(order), e, text)
		})
	}
	all.Wait()
	order, _ := common.Order(common.Len(), 1)
	for i, got := range told {
		if got != fmt.Sprint(true, len(order), api.OK, want) {
			t.Errorf("the %dth: %q", i, got)
		}
	}
}
