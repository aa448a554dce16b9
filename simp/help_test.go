package simp

import (
	"fmt"
	"strconv"
	"strings"
	"testing"

	"cadence/api"
	"cadence/eval"
	"cadence/term"
)

// picker tells numbers that look like chance, the same ones in each run.
type picker uint64

func (p *picker) next() uint64 {
	*p ^= *p << 13
	*p ^= *p >> 7
	*p ^= *p << 17
	return uint64(*p)
}

func (p *picker) below(n int) int { return int(p.next() >> 11 % uint64(n)) }

func pick[T any](p *picker, list ...T) T { return list[p.below(len(list))] }

// words: of the operations, by their numbers, as term.Dump tells them.
var words = strings.Fields("- true false const var not and or xor eq ult ule slt sle ite com neg band bor bxor add sub mul div rem shl shr sar rol ror cat slice zext sext")

// opOf: the operation of a word.
func opOf(word string) int {
	for op, w := range words {
		if w == word {
			return op
		}
	}
	panic("no operation: " + word)
}

// makes: what makes terms of nodes: a maker, or a store that takes them as they are.
type makes interface {
	Make(n api.Node) (int, api.Errno)
}

// written makes the terms of a text, parts ahead: (add k 3), (slice k 2 4), (zext k 16); T, F; 3 is of 8 bits, 3:16 of 16; names that begin with c are truths, others words of 8 bits, x:16 one of 16. In raw (com k) the terms come to the store as they stand.
type written struct {
	t     testing.TB
	by    makes
	store *term.Store
	rest  []string
}

func read(t testing.TB, by makes, store *term.Store, text string) int {
	t.Helper()
	text = strings.NewReplacer("(", " ( ", ")", " ) ").Replace(text)
	w := &written{t, by, store, strings.Fields(text)}
	made := w.term()
	if len(w.rest) > 0 {
		t.Fatalf("%q: behind its end: %q", text, w.rest)
	}
	return made
}

func (w *written) token() string {
	s := w.rest[0]
	w.rest = w.rest[1:]
	return s
}

func (w *written) number() int {
	n, err := strconv.Atoi(w.token())
	if err != nil {
		w.t.Fatal(err)
	}
	return n
}

func (w *written) make(n api.Node) int {
	w.t.Helper()
	made, e := w.by.Make(n)
	if e != api.OK {
		w.t.Fatalf("Make(%+v): %v", n, e)
	}
	return made
}

func (w *written) width(t int) int {
	n, _ := w.store.Node(t)
	return n.W
}

func (w *written) term() int {
	w.t.Helper()
	s := w.token()
	if s != "(" {
		return w.leaf(s)
	}
	s = w.token()
	if s == "raw" {
		by := w.by
		w.by = w.store
		made := w.term()
		w.by = by
		w.token()
		return made
	}
	n := api.Node{Op: opOf(s), A: w.term()}
	n.W = w.width(n.A)
	switch n.Op {
	case api.OpSlice:
		n.Num, n.W = uint64(w.number()), w.number()
	case api.OpZext, api.OpSext:
		n.W = w.number()
	case api.OpNot, api.OpCom, api.OpNeg:
	case api.OpIte:
		n.B, n.C = w.term(), w.term()
		n.W = w.width(n.B)
	case api.OpCat:
		n.B = w.term()
		n.W += w.width(n.B)
	default:
		n.B = w.term()
		if n.Op < api.OpCom {
			n.W = 0
		}
	}
	if end := w.token(); end != ")" {
		w.t.Fatalf("%q where ) must be", end)
	}
	return w.make(n)
}

func (w *written) leaf(s string) int {
	w.t.Helper()
	switch s {
	case "T":
		return w.make(api.Node{Op: api.OpTrue})
	case "F":
		return w.make(api.Node{Op: api.OpFalse})
	}
	name, tail, wide := strings.Cut(s, ":")
	n := api.Node{Op: api.OpVar, Name: name, W: 8}
	if wide {
		n.W, _ = strconv.Atoi(tail)
	} else if name[0] == 'c' {
		n.W = 0
	}
	if x, err := strconv.ParseUint(name, 0, 64); err == nil {
		n.Op, n.Name, n.Num = api.OpConst, "", x
	}
	return w.make(n)
}

// dump: of a store's terms.
func dump(t testing.TB, s *term.Store, roots ...int) string {
	t.Helper()
	text, e := s.Dump(roots...)
	if e != api.OK {
		t.Fatal(e, roots)
	}
	return text
}

// plainStore: without a term or a limit.
func plainStore(t testing.TB) *term.Store {
	t.Helper()
	s, e := term.New(0)
	if e != api.OK {
		t.Fatal(e)
	}
	return s
}

// asItIs: the Dump of the term of a text, made without a rule.
func asItIs(t testing.TB, text string) string {
	t.Helper()
	s := plainStore(t)
	return dump(t, s, read(t, s, s, text))
}

// simple: the Dump of what a new maker makes of a text.
func simple(t testing.TB, text string) string {
	t.Helper()
	m := New()
	return dump(t, m.Store(), read(t, m, m.Store(), text))
}

// wantBecomes holds what is made of a text against another, which is taken as it is.
func wantBecomes(t testing.TB, name, text, want string) {
	t.Helper()
	if got, want := simple(t, text), asItIs(t, want); got != want {
		t.Errorf("%s: %s became\n%snot\n%s", name, text, got, want)
	}
}

// nodeOf: of a term that must be there.
func nodeOf(s *term.Store, t int) api.Node {
	n, e := s.Node(t)
	if e != api.OK {
		panic(fmt.Sprint("no term ", t))
	}
	return n
}

// shown: all that can be seen of a store's terms.
func shown(s *term.Store) string {
	var b strings.Builder
	for i := range s.Len() {
		fmt.Fprintln(&b, nodeOf(s, i+1))
	}
	return b.String()
}

// someWord: a value of a sort, more often than not an edge.
func someWord(p *picker, w int) uint64 {
	if w == 0 {
		return uint64(p.below(2))
	}
	top := ^uint64(0) >> (64 - w)
	return pick(p, 0, 1, 2, top, top-1, top>>1, top>>1+1, uint64(w), uint64(w)-1, 1<<p.below(w), p.next(), p.next()) & top
}

// somethingTold: of the variables of some terms.
func somethingTold(p *picker, s *term.Store, roots ...int) []api.Value {
	vals, e := eval.Vars(s, roots)
	if e != api.OK {
		panic(e)
	}
	for i := range vals {
		vals[i].Num = someWord(p, vals[i].W)
	}
	return vals
}

// wantMeans holds the value of a term against that of another one, under several values of the variables.
func wantMeans(t testing.TB, p *picker, s *term.Store, a int, other *term.Store, b int) {
	t.Helper()
	if nodeOf(s, a).W != nodeOf(other, b).W {
		t.Fatalf("of another sort:\n%s%s", dump(t, s, a), dump(t, other, b))
	}
	for range 12 {
		vals := somethingTold(p, s, a)
		x, e := eval.Value(s, a, vals)
		y, bad := eval.Value(other, b, vals)
		if x != y || e != api.OK || bad != api.OK {
			t.Fatalf("under %v: %d (%v) of\n%s, and %d (%v) of\n%s", vals, x, e, dump(t, s, a), y, bad, dump(t, other, b))
		}
	}
	wantNoMoreVars(t, s, a, other, b)
}

// wantNoMoreVars: the second term has none that the first one has not.
func wantNoMoreVars(t testing.TB, s *term.Store, a int, other *term.Store, b int) {
	t.Helper()
	vars, _ := eval.Vars(s, []int{a})
	had := map[api.Value]bool{}
	for _, v := range vars {
		had[v] = true
	}
	vars, _ = eval.Vars(other, []int{b})
	for _, v := range vars {
		if !had[v] {
			t.Fatalf("%v came to\n%sin\n%s", v, dump(t, s, a), dump(t, other, b))
		}
	}
}

// noTerms: numbers that are no terms of a store.
func noTerms(s *term.Store) []int {
	return []int{0, -1, s.Len() + 1, 1<<63 - 1, -1 << 63}
}
