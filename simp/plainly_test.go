package simp

import (
	"fmt"
	"strings"
	"testing"

	"cadence/api"
	"cadence/term"
)

// both: a maker and the plain one, side by side.
type both struct {
	t     testing.TB
	p     *picker
	m     *Maker
	plain *plainMaker
	trees map[int]*tree // of the maker's terms
	said  int
}

func newBoth(t testing.TB, seed picker) *both {
	return &both{t: t, p: &seed, m: New(), plain: newPlainMaker(), trees: map[int]*tree{}}
}

func (b *both) tree(t int) *tree {
	if b.trees[t] == nil {
		n := nodeOf(b.m.Store(), t)
		b.trees[t] = newTree(n.Op, n.W, n.Num, n.Name, b.trees3(n)...)
	}
	return b.trees[t]
}

func (b *both) trees3(n api.Node) []*tree {
	var kids []*tree
	for _, part := range []int{n.A, n.B, n.C} {
		if part > 0 {
			kids = append(kids, b.tree(part))
		}
	}
	return kids
}

// make: of a node that the store takes; both makers must say the same, and it must mean the node.
func (b *both) make(n api.Node) int {
	b.t.Helper()
	got, e := b.m.Make(n)
	if e != api.OK {
		b.t.Fatalf("Make(%+v): %v", n, e)
	}
	node := newTree(n.Op, n.W, n.Num, n.Name, b.trees3(n)...)
	want := b.plain.make(node)
	if b.tree(got).text != want.text {
		b.t.Fatalf("%s became\n%s, not\n%s", node.text, b.tree(got).text, want.text)
	}
	if want.w != n.W {
		b.t.Fatalf("%s became of another sort: %s", node.text, want.text)
	}
	b.said++
	return got
}

// means: has what is made the value of the node? The node itself is a term of another store.
func (b *both) means(n api.Node, made int) {
	b.t.Helper()
	s := plainStore(b.t)
	node := newTree(n.Op, n.W, n.Num, n.Name, b.trees3(n)...)
	wantMeans(b.t, b.p, s, intoStore(s, node, map[string]int{}), b.m.Store(), made)
}

// intoStore: a tree's term, as it stands.
func intoStore(s *term.Store, n *tree, seen map[string]int) int {
	if t := seen[n.text]; t > 0 {
		return t
	}
	node := api.Node{Op: n.op, W: n.w, Num: n.num, Name: n.name}
	for i, kid := range n.kids {
		*[]*int{&node.A, &node.B, &node.C}[i] = intoStore(s, kid, seen)
	}
	t, e := s.Make(node)
	if e != api.OK {
		panic(fmt.Sprint(node, e))
	}
	seen[n.text] = t
	return t
}

// partsOfWidth: texts of words of w bits, between which the rules choose.
func partsOfWidth(w int) []string {
	top := ^uint64(0) >> (64 - w)
	texts := []string{}
	for _, x := range []uint64{0, 1, 2, 3, 4, 6, 8, uint64(w), uint64(w) - 1, uint64(w) + 1, top, top - 1, top>>1 + 1, top >> 1} {
		texts = append(texts, fmt.Sprint(x&top))
	}
	texts = append(texts, "x", "y", "(com x)", "(com y)", "(neg x)", "(neg y)", "(add x 1)", "(add x 3)", "(add x y)", "(add y x)",
		"(sub x y)", "(sub y x)", "(sub 1 x)", "(bxor x y)", "(bxor y x)", "(bxor x 1)", "(band x 1)", "(band x y)", "(bor x 1)", "(mul x 3)",
		"(ite c x y)", "(ite c 1 0)", "(ite (not c) x y)", "(ite cd 0 1)", "(ite c (com x) y)")
	if w&(w-1) == 0 {
		texts = append(texts, "(shl x 1)", "(shl y 1)", "(shr x 1)", "(sar x 1)", "(rol x 1)", "(rol x y)", "(ror x y)", "(shl x y)")
	}
	for i, s := range texts {
		texts[i] = withWidth(s, w)
	}
	if w > 1 {
		v := w - 1
		for _, s := range []string{"(zext (slice x 0 %[2]d) %[1]d)", "(sext (slice x 0 %[2]d) %[1]d)", "(zext (slice x 0 1) %[1]d)", "(sext z:1 %[1]d)",
			"(cat (slice x 1 %[2]d) (slice y 0 1))", "(cat (slice x 0 1) (slice x 1 %[2]d))", "(cat z:1 (slice x 0 %[2]d))"} {
			texts = append(texts, withWidth(fmt.Sprintf(s, w, v), w))
		}
	}
	if w <= 32 {
		texts = append(texts, fmt.Sprintf("(slice v:64 0 %d)", w), fmt.Sprintf("(slice v:64 %d %d)", w, w), fmt.Sprintf("(slice v:64 1 %d)", w))
	}
	return unlike(texts)
}

// withWidth: a text in which x, y and constants are of w bits; not the numbers of slices and of their like.
func withWidth(text string, w int) string {
	f := strings.Fields(strings.NewReplacer("(", " ( ", ")", " ) ").Replace(text))
	skip := 0
	top := ^uint64(0) >> (64 - w)
	for i, s := range f {
		switch {
		case s == "slice" || s == "zext" || s == "sext":
			skip++
		case s == "x" || s == "y":
			f[i] = fmt.Sprintf("%s:%d", s, w)
		case s[0] >= '0' && s[0] <= '9' && skip == 0:
			var x uint64
			fmt.Sscan(s, &x)
			f[i] = fmt.Sprintf("%d:%d", x&top, w)
		}
	}
	return strings.Join(f, " ")
}

func unlike(texts []string) []string {
	var list []string
	seen := map[string]bool{}
	for _, s := range texts {
		if !seen[s] {
			list = append(list, s)
		}
		seen[s] = true
	}
	return list
}

// truthParts: texts of truths.
func truthParts() []string {
	return []string{"T", "F", "c", "cd", "(not c)", "(not cd)", "(and c cd)", "(and cd c)", "(or c cd)", "(xor c cd)", "(not (xor c cd))",
		"(eq q r)", "(ult q r)", "(not (ult q r))", "(eq q 1)", "(ite c cd ce)", "(ite cd c ce)", "(ite ce cd c)"}
}

func (b *both) all(texts []string) []int {
	b.t.Helper()
	var terms []int
	seen := map[int]bool{}
	for _, s := range texts {
		made := read(b.t, b.m, b.m.Store(), s)
		if !seen[made] {
			terms = append(terms, made)
		}
		seen[made] = true
	}
	return terms
}

// TestAllPairsPlainly: all operations of all pairs of parts between which the rules choose.
func TestAllPairsPlainly(t *testing.T) {
	fit := map[string]int{}
	for _, w := range []int{1, 2, 3, 4, 6, 8, 32, 33, 64} {
		b := newBoth(t, picker(w))
		truths, terms := b.all(truthParts()), b.all(partsOfWidth(w))
		for i, a := range terms {
			for k, c := range terms {
				b.ofTwoWords(w, a, c, (i+k)%7 == 0)
				made := b.make(api.Node{Op: api.OpIte, W: w, A: truths[(i+k)%len(truths)], B: a, C: c})
				if (i+k)%7 == 0 {
					b.means(api.Node{Op: api.OpIte, W: w, A: truths[(i+k)%len(truths)], B: a, C: c}, made)
				}
			}
			b.ofOneWord(w, a)
		}
		for name, n := range b.plain.fit {
			fit[name] += n
		}
	}
	b := newBoth(t, 9)
	b.ofTruths(b.all(truthParts()))
	for name, n := range b.plain.fit {
		fit[name] += n
	}
	for _, of := range b.plain.rules {
		for _, r := range of {
			if fit[r.name] == 0 {
				t.Errorf("%s: nothing fitted it", r.name)
			}
		}
	}
}

func (b *both) ofTwoWords(w, x, y int, means bool) {
	b.t.Helper()
	for op := api.OpEq; op <= api.OpCat; op++ {
		n := api.Node{Op: op, W: w, A: x, B: y}
		switch {
		case op >= api.OpIte && op <= api.OpNeg, op >= api.OpShl && op <= api.OpRor && w&(w-1) != 0, op == api.OpCat && w > 32:
			continue
		case op <= api.OpSle:
			n.W = 0
		case op == api.OpCat:
			n.W = 2 * w
		}
		made := b.make(n)
		if means {
			b.means(n, made)
		}
		if op == api.OpCat && means {
			for from := 0; from < 2*w; from += max(1, w-1) {
				for n := 1; from+n <= 2*w; n += max(1, w-1) {
					b.make(api.Node{Op: api.OpSlice, W: n, A: made, Num: uint64(from)})
				}
			}
		}
	}
}

func (b *both) ofOneWord(w, x int) {
	b.t.Helper()
	var all []api.Node
	for _, op := range []int{api.OpCom, api.OpNeg} {
		all = append(all, api.Node{Op: op, W: w, A: x})
	}
	for from := range w {
		for n := 1; from+n <= w; n++ {
			if w <= 8 || from < 3 || from+n >= w-1 {
				all = append(all, api.Node{Op: api.OpSlice, W: n, A: x, Num: uint64(from)})
			}
		}
	}
	for _, op := range []int{api.OpZext, api.OpSext} {
		for to := w; to <= 64; to++ {
			if to < w+3 || to > 62 {
				all = append(all, api.Node{Op: op, W: to, A: x})
			}
		}
	}
	for i, n := range all {
		made := b.make(n)
		if i%3 == 0 {
			b.means(n, made)
		}
	}
}

func (b *both) ofTruths(truths []int) {
	b.t.Helper()
	for _, a := range truths {
		b.make(api.Node{Op: api.OpNot, A: a})
		for _, c := range truths {
			for _, op := range []int{api.OpAnd, api.OpOr, api.OpXor, api.OpEq} {
				n := api.Node{Op: op, A: a, B: c}
				b.means(n, b.make(n))
			}
			for i, d := range truths {
				n := api.Node{Op: api.OpIte, A: a, B: c, C: d}
				if made := b.make(n); i%5 == 0 {
					b.means(n, made)
				}
			}
		}
	}
}

// someNode: of a store's terms, right, of parts that are not too great; tells false, if none was found.
func (b *both) someNode(terms []int) (api.Node, bool) {
	s, p := b.m.Store(), b.p
	of := func(w int) int { // a term of that sort; 0, if none is found; below 0: any word
		for range 30 {
			t := terms[len(terms)-1-p.below(min(len(terms), 60))]
			if p.below(3) == 0 {
				t = terms[p.below(len(terms))]
			}
			if sort := nodeOf(s, t).W; (sort == w || w < 0 && sort > 0) && b.tree(t).size < 40 {
				return t
			}
		}
		return 0
	}
	n := api.Node{Op: api.OpNot + p.below(api.OpLast-api.OpNot+1)}
	sort := pick(p, 0, -1)
	switch {
	case n.Op <= api.OpXor:
		sort = 0
	case n.Op > api.OpIte || n.Op > api.OpEq && n.Op < api.OpIte:
		sort = -1
	}
	n.A = of(sort)
	if n.A == 0 {
		return n, false
	}
	w := nodeOf(s, n.A).W
	switch {
	case n.Op == api.OpNot:
	case n.Op <= api.OpSle:
		n.B = of(w)
	case n.Op == api.OpIte:
		n.B, n.A = n.A, of(0)
		n.W, n.C = w, of(w)
	case n.Op <= api.OpNeg:
		n.W = w
	case n.Op <= api.OpRor:
		n.W, n.B = w, of(w)
	case n.Op == api.OpCat:
		n.B = of(-1)
		n.W = w + max(1, nodeOf(s, max(1, n.B)).W)
	case n.Op == api.OpSlice:
		from := p.below(w)
		n.Num, n.W = uint64(from), 1+p.below(w-from)
	default:
		n.W = w + p.below(65-w)
	}
	return n, b.isRight(n)
}

// isRight: would a store take the node? Asked of another one, since the maker's would keep it.
func (b *both) isRight(n api.Node) bool {
	probe, seen := plainStore(b.t), map[string]int{}
	for _, t := range []*int{&n.A, &n.B, &n.C} {
		if *t > 0 {
			*t = intoStore(probe, b.tree(*t), seen)
		}
	}
	_, e := probe.Make(n)
	return e == api.OK
}

// leaves: variables and constants of some sorts.
func (b *both) leaves() []int {
	var terms []int
	for i, w := range []int{0, 0, 1, 4, 4, 8, 8, 8, 5, 64, 64} {
		t, _ := b.m.Var(fmt.Sprint("v", i), w)
		terms = append(terms, t)
	}
	for range 30 {
		w := pick(b.p, 1, 4, 8, 8, 5, 64)
		t, _ := b.m.Const(w, someWord(b.p, w))
		terms = append(terms, t)
	}
	return append(terms, b.m.Truth(true), b.m.Truth(false))
}

// TestGrownPlainly: terms of terms of what was made.
func TestGrownPlainly(t *testing.T) {
	for seed := range 120 {
		b := newBoth(t, picker(seed+1))
		terms := b.leaves()
		for range 400 {
			if n, right := b.someNode(terms); right {
				made := b.make(n)
				b.means(n, made)
				terms = append(terms, made)
			}
		}
		if b.said < 200 {
			t.Error(b.said)
		}
	}
}

// TestGrownFromRawParts: the same where the maker's store has terms that nobody made simple.
func TestGrownFromRawParts(t *testing.T) {
	for seed := range 120 {
		b := newBoth(t, picker(seed+1000))
		terms := b.leaves()
		for i := range 400 {
			n, right := b.someNode(terms)
			if !right {
				continue
			}
			if i%2 == 0 {
				raw, e := b.m.Store().Make(n)
				if e != api.OK {
					t.Fatal(e)
				}
				terms = append(terms, raw)
				continue
			}
			made := b.make(n)
			b.means(n, made)
			terms = append(terms, made)
		}
	}
}
