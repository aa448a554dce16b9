package known

import (
	"fmt"
	"math/bits"
	"slices"
	"strconv"
	"strings"
	"testing"

	"cadence/api"
	"cadence/eval"
	"cadence/term"
)

// picker tells numbers that look like chance, the same ones in each run.
type picker uint64

func (p *picker) next() uint64 {
	*p ^= *p << 13
	*p ^= *p >> 7
	*p ^= *p << 17
	return uint64(*p)
}

func (p *picker) below(n int) int { return int(p.next() >> 11 % uint64(n)) }

func pickOf[T any](p *picker, list ...T) T { return list[p.below(len(list))] }

// is: what was answered is what the chapter says.
func is(t testing.TB, what string, got, want any) {
	t.Helper()
	if fmt.Sprint(got) != fmt.Sprint(want) {
		t.Fatalf("%s: %v, not %v", what, got, want)
	}
}

// must: what may not be refused.
func must[T any](t testing.TB) func(x T, e api.Errno) T {
	return func(x T, e api.Errno) T {
		t.Helper()
		if e != api.OK {
			t.Fatalf("refused: %d", e)
		}
		return x
	}
}

// refusedFact: that error, and nothing beside it.
func refusedFact(t testing.TB, what string, f api.Fact, e, want api.Errno) {
	t.Helper()
	if e != want || f != (api.Fact{}) {
		t.Fatalf("%s: %v %d, not %d", what, f, e, want)
	}
}

// whole: the greatest word of a width, a truth being as one bit.
func whole(w int) uint64 { return ^uint64(0) >> (64 - max(w, 1)) }

// fact reads a fact of small width: its bits from the highest on (0, 1, ?), with a t ahead of the one of a truth, and its bounds; without bounds they are as wide as the bits let them be.
func fact(text string) api.Fact {
	words := strings.Fields(text)
	shape, isTruth := strings.CutPrefix(words[0], "t")
	f := api.Fact{W: len(shape)}
	if isTruth {
		f.W = 0
	}
	for _, r := range shape {
		f.One, f.Zero = f.One<<1, f.Zero<<1
		switch r {
		case '1':
			f.One |= 1
		case '0':
			f.Zero |= 1
		}
	}
	f.Least, f.Top = f.One, whole(f.W)&^f.Zero
	if len(words) == 3 {
		f.Least, _ = strconv.ParseUint(words[1], 0, 64)
		f.Top, _ = strconv.ParseUint(words[2], 0, 64)
	}
	return f
}

// facts: of several texts.
func facts(texts ...string) []api.Fact {
	list := []api.Fact{}
	for _, text := range texts {
		list = append(list, fact(text))
	}
	return list
}

// wordsOf: the words of a fact that may be, by trying all that have its bits.
func wordsOf(f api.Fact) []uint64 {
	free := whole(f.W) &^ (f.One | f.Zero)
	if f.One&f.Zero != 0 {
		return nil
	}
	if bits.OnesCount64(free) > 16 {
		panic("too many words")
	}
	words := []uint64{}
	for part := uint64(0); ; part = (part - free) & free {
		if x := part | f.One; x >= f.Least && x <= f.Top {
			words = append(words, x)
		}
		if part == free {
			return words
		}
	}
}

// factOfWords: the settled fact of words, in the chapter's words for it.
func factOfWords(w int, words []uint64) api.Fact {
	f := api.Fact{W: w, One: whole(w), Zero: whole(w), Least: slices.Min(words), Top: slices.Max(words)}
	for _, x := range words {
		f.One &= x
		f.Zero &^= x
	}
	return f
}

// allFacts: all that may be, of a small width.
func allFacts(w int) []api.Fact {
	list := []api.Fact{}
	n := whole(w) + 1
	for i := range n * n * n * n {
		list = append(list, api.Fact{W: w, One: i % n, Zero: i / n % n, Least: i / n / n % n, Top: i / n / n / n})
	}
	return list
}

// settledFacts: all settled ones, of a small width.
func settledFacts(w int) []api.Fact {
	list := []api.Fact{}
	seen := map[api.Fact]int{}
	for _, f := range allFacts(w) {
		words := wordsOf(f)
		if len(words) == 0 {
			continue
		}
		s := factOfWords(w, words)
		if seen[s]++; seen[s] == 1 {
			list = append(list, s)
		}
	}
	return list
}

// anyFact: of a width, that may be; it may have no word.
func anyFact(p *picker, w int) api.Fact {
	word := func() uint64 {
		return pickOf(p, p.next(), p.next(), 0, ^uint64(0), 1, 1<<63, p.next()>>p.below(64)) & whole(w)
	}
	f := api.Fact{W: w, One: word() & word() & word(), Least: word(), Top: word()}
	f.Zero = word() & word() &^ f.One
	if p.below(20) > 0 && f.Least > f.Top {
		f.Least, f.Top = f.Top, f.Least
	}
	if p.below(3) == 0 { // bounds that lie close to each other
		f.Top = min(f.Least+uint64(p.below(20)), whole(w))
		f.One, f.Zero = f.One&f.Least, f.Zero&^f.Least
	}
	return f
}

// someFact: of a width, with a word.
func someFact(p *picker, w int) api.Fact {
	for {
		if f := anyFact(p, w); plainHas(f) {
			return f
		}
	}
}

// fewWords: a fact of a width with few bits open, and a word.
func fewWords(p *picker, w int) api.Fact {
	for {
		x := p.next() & whole(w)
		free := uint64(0)
		for range p.below(7) {
			free |= 1 << pickOf(p, p.below(max(w, 1)), max(w, 1)-1, 0)
		}
		f := api.Fact{W: w, One: x &^ free, Zero: whole(w) &^ (x | free), Top: whole(w)}
		if p.below(2) == 0 {
			f.Least = pickOf(p, f.One|p.next()&free, p.next()&x)
			f.Top = pickOf(p, x|p.next()&free, x|p.next()&whole(w))
		}
		if len(wordsOf(f)) > 0 {
			return f
		}
	}
}

func newStore(t testing.TB) *term.Store {
	t.Helper()
	return must[*term.Store](t)(term.New(0))
}

func nodeOf(s *term.Store, t int) api.Node {
	n, e := s.Node(t)
	if e != api.OK {
		panic(fmt.Sprint("no term ", t))
	}
	return n
}

// shown: all that can be seen of a store's terms.
func shown(s *term.Store) string {
	var b strings.Builder
	for i := range s.Len() {
		fmt.Fprintln(&b, nodeOf(s, i+1))
	}
	return b.String()
}

// opWords: of the operations, by their numbers.
var opWords = strings.Fields("- true false const var not and or xor eq ult ule slt sle ite com neg band bor bxor add sub mul div rem shl shr sar rol ror cat slice zext sext")

// written reads a term of a text and makes it in a store as it stands: (add k:8 3:8), (slice k:8 2 4), (zext k:8 16); T, F; p is a truth, k:8 a word of 8 bits, 3:8 a constant of 8 bits.
type written struct {
	t    testing.TB
	s    *term.Store
	rest []string
}

// made: the term of a text.
func made(t testing.TB, s *term.Store, text string) int {
	t.Helper()
	w := &written{t, s, strings.Fields(strings.NewReplacer("(", " ( ", ")", " ) ").Replace(text))}
	x := w.term()
	if len(w.rest) > 0 {
		t.Fatalf("%q: behind its end: %q", text, w.rest)
	}
	return x
}

// all: the terms of several texts.
func all(t testing.TB, s *term.Store, texts ...string) []int {
	t.Helper()
	list := []int{}
	for _, text := range texts {
		list = append(list, made(t, s, text))
	}
	return list
}

func (w *written) token() string {
	s := w.rest[0]
	w.rest = w.rest[1:]
	return s
}

func (w *written) number() int {
	n, err := strconv.Atoi(w.token())
	if err != nil {
		w.t.Fatal(err)
	}
	return n
}

func (w *written) term() int {
	w.t.Helper()
	word := w.token()
	if word != "(" {
		return w.leaf(word)
	}
	op := slices.Index(opWords, w.token())
	x, e := w.node(op)
	if end := w.token(); end != ")" || e != api.OK {
		w.t.Fatalf("%s: %q, %d", opWords[op], end, e)
	}
	return x
}

func (w *written) node(op int) (int, api.Errno) {
	w.t.Helper()
	a := w.term()
	switch op {
	case api.OpSlice:
		from := w.number()
		return w.s.Slice(a, from, w.number())
	case api.OpZext, api.OpSext:
		return w.s.Ext(op, a, w.number())
	case api.OpNot, api.OpCom, api.OpNeg:
		return w.s.Un(op, a)
	case api.OpIte:
		b := w.term()
		return w.s.Ite(a, b, w.term())
	}
	return w.s.Bin(op, a, w.term())
}

func (w *written) leaf(word string) int {
	w.t.Helper()
	if word == "T" || word == "F" {
		return must[int](w.t)(w.s.Truth(word == "T"))
	}
	name, tail, _ := strings.Cut(word, ":")
	width, _ := strconv.Atoi(tail)
	if x, err := strconv.ParseUint(name, 0, 64); err == nil {
		return must[int](w.t)(w.s.Const(width, x))
	}
	return must[int](w.t)(w.s.Var(name, width))
}

// grown: a store of mixed terms, truths and words, over few variables of few bits; none, if there are to be none.
func grown(t testing.TB, p *picker, calls int, hasVars bool) *term.Store {
	t.Helper()
	s := newStore(t)
	w := 1 + p.below(4)
	if hasVars {
		all(t, s, fmt.Sprint("x:", w), fmt.Sprint("y:", w), "p", pickOf(p, "z:2", "z:1", "q"))
	} else {
		all(t, s, fmt.Sprint(p.below(8), ":", w), fmt.Sprint(p.below(8), ":", w), "T", "F")
	}
	part := func() int { // mostly late ones
		return s.Len() - p.below(1+p.below(s.Len()))
	}
	alike := func(a int) int { // mostly of the sort of another
		b := part()
		for range 30 {
			if nodeOf(s, a).W == nodeOf(s, b).W {
				break
			}
			b = part()
		}
		return b
	}
	for range calls {
		a := part()
		of := nodeOf(s, a).W
		switch op := 1 + p.below(api.OpLast); op {
		case api.OpTrue, api.OpFalse, api.OpVar:
		case api.OpConst:
			s.Const(max(of, 1), p.next())
		case api.OpNot, api.OpCom, api.OpNeg:
			s.Un(op, a)
		case api.OpIte:
			s.Ite(alike(3), a, alike(a)) // 3 is a truth
		case api.OpSlice:
			from := p.below(1 + of)
			s.Slice(a, from, 1+p.below(1+of-from))
		case api.OpZext, api.OpSext:
			s.Ext(op, a, of+p.below(4))
		default:
			s.Bin(op, a, alike(a))
		}
	}
	return s
}

// someRoots: of a store, in any order, some twice.
func someRoots(p *picker, s *term.Store) []int {
	roots := []int{}
	for range p.below(6) {
		roots = append(roots, s.Len()-p.below(1+p.below(s.Len())))
	}
	return roots
}

// varsOf: the variables of some terms.
func varsOf(t testing.TB, s *term.Store, roots []int) []api.Value {
	t.Helper()
	return must[[]api.Value](t)(eval.Vars(s, roots))
}

// somethingTold: of some of the variables, and of some others, in any order.
func somethingTold(p *picker, vars []api.Value) ([]string, []api.Fact) {
	names, told := []string{}, []api.Fact{}
	for _, v := range append(slices.Clone(vars), api.Value{Name: "nobody", W: 7}, api.Value{Name: "no1"}) {
		if p.below(3) == 0 {
			continue
		}
		at := p.below(len(names) + 1)
		names = slices.Insert(names, at, v.Name)
		told = slices.Insert(told, at, someFact(p, v.W))
	}
	return names, told
}

// everyValue: all values of some variables that are words of what is told of them, one behind the other.
func everyValue(vars []api.Value, names []string, told []api.Fact) [][]api.Value {
	every := [][]api.Value{nil}
	for _, v := range vars {
		f := api.Fact{W: v.W, Top: whole(v.W)}
		if i := slices.Index(names, v.Name); i >= 0 {
			f = told[i]
		}
		longer := [][]api.Value{}
		for _, vals := range every {
			for _, x := range wordsOf(f) {
				longer = append(longer, append(slices.Clone(vals), api.Value{Name: v.Name, W: v.W, Num: x}))
			}
		}
		every = longer
	}
	return every
}

// factsOf: what Facts answers, without an error; the store and the lists stay as they were.
func factsOf(t testing.TB, s *term.Store, roots []int, names []string, told []api.Fact) []api.Fact {
	t.Helper()
	before, given := shown(s), fmt.Sprint(roots, names, told)
	list := must[[]api.Fact](t)(Facts(s, roots, names, told))
	is(t, "the arguments", fmt.Sprint(roots, names, told), given)
	is(t, "the store is as it was", shown(s) == before, true)
	return list
}

// learnt: what Learn answers, as a text; the store and the lists stay as they were.
func learnt(t testing.TB, s *term.Store, conds []int, names []string, told []api.Fact) string {
	t.Helper()
	before, given := shown(s), fmt.Sprint(conds, names, told)
	n, f, e := Learn(s, conds, names, told)
	is(t, "the arguments", fmt.Sprint(conds, names, told), given)
	is(t, "the store is as it was", shown(s) == before, true)
	if e != api.OK && (n != nil || f != nil) {
		t.Fatalf("beside the error %d: %v %v", e, n, f)
	}
	return knownText(n, f, e)
}

// knownText: names with facts, or an error.
func knownText(names []string, facts []api.Fact, e api.Errno) string {
	if e != api.OK {
		return fmt.Sprint("error ", int(e))
	}
	if len(names) != len(facts) {
		return fmt.Sprint("not as many: ", names, facts)
	}
	list := []string{}
	for i := range names {
		list = append(list, fmt.Sprint(names[i], " ", facts[i]))
	}
	return strings.Join(list, "; ")
}
