package eval

import (
	"fmt"
	"math/big"
	"slices"
	"strings"
	"testing"

	"cadence/api"
	"cadence/term"
)

// picker tells numbers that look like chance, the same ones in each run.
type picker uint64

func (p *picker) next() uint64 {
	*p ^= *p << 13
	*p ^= *p >> 7
	*p ^= *p << 17
	return uint64(*p)
}

func (p *picker) below(n int) int { return int(p.next() >> 11 % uint64(n)) }

func pick[T any](p *picker, list ...T) T { return list[p.below(len(list))] }

// empty: a store without a term.
func empty(t testing.TB, limit int) *term.Store {
	t.Helper()
	s, e := term.New(limit)
	if e != api.OK {
		t.Fatal(e)
	}
	return s
}

// mk: the term of a node that must be taken.
func mk(t testing.TB, s *term.Store, n api.Node) int {
	t.Helper()
	made, e := s.Make(n)
	if e != api.OK {
		t.Fatalf("Make(%+v): %v", n, e)
	}
	return made
}

func variable(t testing.TB, s *term.Store, name string, w int) int {
	t.Helper()
	return mk(t, s, api.Node{Op: api.OpVar, W: w, Name: name})
}

func word(t testing.TB, s *term.Store, w int, x uint64) int {
	t.Helper()
	return mk(t, s, api.Node{Op: api.OpConst, W: w, Num: x})
}

func bin(t testing.TB, s *term.Store, op, a, b int) int {
	t.Helper()
	made, e := s.Bin(op, a, b)
	if e != api.OK {
		t.Fatalf("Bin(%d, %d, %d): %v", op, a, b, e)
	}
	return made
}

func un(t testing.TB, s *term.Store, op, a int) int {
	t.Helper()
	made, e := s.Un(op, a)
	if e != api.OK {
		t.Fatalf("Un(%d, %d): %v", op, a, e)
	}
	return made
}

// val: what is told of a variable.
func val(name string, w int, x uint64) api.Value { return api.Value{Name: name, W: w, Num: x} }

// example: the store of the chapter's examples.
type example struct {
	s          *term.Store
	x, y, a, q int
}

func newExample(t testing.TB, limit int) example {
	t.Helper()
	s := empty(t, limit)
	x, y := variable(t, s, "x", 8), variable(t, s, "y", 8)
	a := bin(t, s, api.OpAdd, x, y)
	return example{s, x, y, a, bin(t, s, api.OpEq, a, x)}
}

// nodeOf: of a term that must be there.
func nodeOf(s *term.Store, t int) api.Node {
	n, e := s.Node(t)
	if e != api.OK {
		panic(fmt.Sprint("no term ", t))
	}
	return n
}

// shown: all that can be seen of a store's terms.
func shown(s *term.Store) string {
	var b strings.Builder
	for i := range s.Len() {
		fmt.Fprintln(&b, nodeOf(s, i+1))
	}
	return b.String()
}

// isLike: have both stores the same terms by the same numbers?
func isLike(s, other *term.Store) bool {
	for i := range s.Len() {
		if n, e := other.Node(i + 1); e != api.OK || n != nodeOf(s, i+1) {
			return false
		}
	}
	return s.Len() == other.Len()
}

// likeIt: a store of its own with the same terms, by the same numbers, and another limit.
func likeIt(t testing.TB, s *term.Store, limit int) *term.Store {
	t.Helper()
	other := empty(t, limit)
	for i := range s.Len() {
		if got := mk(t, other, nodeOf(s, i+1)); got != i+1 {
			t.Fatal(got, i+1)
		}
	}
	return other
}

// widths: of words in the tests' stores.
var widths = []int{1, 3, 4, 8, 33, 64}

// grown: a store of very mixed terms, truths and words, over variables of each width.
func grown(t testing.TB, p *picker, calls int) *term.Store {
	t.Helper()
	s := empty(t, 0)
	for i, w := range widths {
		variable(t, s, fmt.Sprint("w", i), w)
		variable(t, s, fmt.Sprint("v", i), w)
	}
	for _, name := range []string{"p", "q"} {
		variable(t, s, name, 0)
	}
	variable(t, s, "q1", 8) // by the name of q with a tail, of another sort
	if p.below(3) == 0 {    // terms that few lead to, so that cones are small among very many
		for i := range 600 {
			word(t, s, 64, uint64(i))
		}
	}
	first := s.Len()
	part := func() int {
		if p.below(3) == 0 || s.Len() == first {
			return 1 + p.below(14)
		}
		return s.Len() - p.below(min(s.Len()-first, 40))
	}
	alike := func(a int) int { // mostly of the sort of another
		b := part()
		for range 20 {
			if nodeOf(s, a).W == nodeOf(s, b).W {
				break
			}
			b = part()
		}
		return b
	}
	for range calls {
		switch op := 1 + p.below(33); op {
		case api.OpTrue, api.OpFalse:
			s.Truth(op == api.OpTrue)
		case api.OpConst:
			s.Const(pick(p, widths...), p.next()>>p.below(64))
		case api.OpVar:
			s.Var(pick(p, "p", "z", "w1"), pick(p, 0, 8, 3))
		case api.OpNot, api.OpCom, api.OpNeg:
			s.Un(op, part())
		case api.OpIte:
			a := part()
			s.Ite(alike(13), a, alike(a)) // 13 is a truth
		case api.OpSlice:
			a := part()
			from := p.below(1 + nodeOf(s, a).W)
			s.Slice(a, from, 1+p.below(1+nodeOf(s, a).W-from))
		case api.OpZext, api.OpSext:
			a := part()
			s.Ext(op, a, pick(p, append(widths, nodeOf(s, a).W)...))
		default:
			a := part()
			s.Bin(op, a, alike(a))
		}
	}
	return s
}

// someRoots: of a store, in any order, some twice, mostly late ones.
func someRoots(p *picker, s *term.Store) []int {
	var roots []int
	for range p.below(5) {
		roots = append(roots, s.Len()-p.below(1+p.below(s.Len())))
	}
	return roots
}

// somethingTold: of the variables of some roots, and of some others.
func somethingTold(p *picker, s *term.Store, roots []int) []api.Value {
	var vals []api.Value
	for _, n := range varsOf(s, roots) {
		if p.below(5) > 0 {
			vals = append(vals, val(n.Name, n.W, someWord(p, n.W)))
		}
	}
	return append(vals, val("nobody", 7, 100), val("nothing", 0, 1))
}

// someWord: a value of a sort, more often than not an edge.
func someWord(p *picker, w int) uint64 {
	if w == 0 {
		return uint64(p.below(2))
	}
	top := ^uint64(0) >> (64 - w)
	return pick(p, 0, 1, top, top>>1, top>>1+1, p.next()&top, p.next()&top) & top
}

// varsOf: the nodes OpVar in term.Order.
func varsOf(s *term.Store, roots []int) []api.Node {
	order, _ := s.Order(roots...)
	var vars []api.Node
	for _, t := range order {
		if n := nodeOf(s, t); n.Op == api.OpVar {
			vars = append(vars, n)
		}
	}
	return vars
}

// plain tells values in the chapters' words, on whole numbers, by calls within one another.
type plain struct {
	s    *term.Store
	vals []api.Value
	seen map[int]*big.Int
}

func plainValue(s *term.Store, t int, vals []api.Value) uint64 {
	p := plain{s, vals, map[int]*big.Int{}}
	return p.value(t).Uint64()
}

func (p plain) value(t int) *big.Int {
	if x := p.seen[t]; x != nil {
		return x
	}
	n := nodeOf(p.s, t)
	var parts []*big.Int
	var sorts []int
	for _, part := range []int{n.A, n.B, n.C} {
		if part > 0 {
			parts = append(parts, p.value(part))
			sorts = append(sorts, nodeOf(p.s, part).W)
		}
	}
	var x *big.Int
	switch {
	case n.Op == api.OpVar:
		x = new(big.Int)
		for _, v := range p.vals {
			if v.Name == n.Name {
				x.SetUint64(v.Num)
			}
		}
	case n.W == 0 && n.Op != api.OpIte:
		x = big.NewInt(0)
		if plainTruth(n.Op, parts, sorts) {
			x = big.NewInt(1)
		}
	default:
		x = plainWord(n, parts, sorts)
		x.Mod(x, power(max(n.W, 1)))
	}
	if n.W == 0 && x.Cmp(power(1)) >= 0 || n.W > 0 && x.Cmp(power(n.W)) >= 0 {
		panic(fmt.Sprint("no value of its sort: ", n, x))
	}
	p.seen[t] = x
	return x
}

// power: of two.
func power(n int) *big.Int { return new(big.Int).Lsh(big.NewInt(1), uint(n)) }

// signed: the signed number of a word.
func signed(x *big.Int, w int) *big.Int {
	if x.Bit(w-1) == 0 {
		return x
	}
	return new(big.Int).Sub(x, power(w))
}

// plainTruth: of an operation that tells a truth.
func plainTruth(op int, x []*big.Int, w []int) bool {
	is := func(i int) bool { return x[i].Sign() != 0 }
	switch op {
	case api.OpTrue:
		return true
	case api.OpFalse:
		return false
	case api.OpNot:
		return !is(0)
	case api.OpAnd:
		return is(0) && is(1)
	case api.OpOr:
		return is(0) || is(1)
	case api.OpXor:
		return is(0) != is(1)
	case api.OpEq:
		return x[0].Cmp(x[1]) == 0
	case api.OpUlt:
		return x[0].Cmp(x[1]) < 0
	case api.OpUle:
		return x[0].Cmp(x[1]) <= 0
	case api.OpSlt:
		return signed(x[0], w[0]).Cmp(signed(x[1], w[1])) < 0
	case api.OpSle:
		return signed(x[0], w[0]).Cmp(signed(x[1], w[1])) <= 0
	}
	panic(op)
}

// plainWord: of an operation that tells a word, or of OpIte; what goes beyond W is not gone yet.
func plainWord(n api.Node, x []*big.Int, w []int) *big.Int {
	z := new(big.Int)
	switch n.Op {
	case api.OpConst:
		return z.SetUint64(n.Num)
	case api.OpIte:
		if x[0].Sign() != 0 {
			return z.Set(x[1])
		}
		return z.Set(x[2])
	case api.OpCom:
		return z.Not(x[0])
	case api.OpNeg:
		return z.Neg(x[0])
	case api.OpCat:
		return z.Add(z.Lsh(x[0], uint(w[1])), x[1])
	case api.OpSlice:
		return z.Rsh(x[0], uint(n.Num))
	case api.OpZext:
		return z.Set(x[0])
	case api.OpSext:
		return z.Set(signed(x[0], w[0]))
	case api.OpBand:
		return z.And(x[0], x[1])
	case api.OpBor:
		return z.Or(x[0], x[1])
	case api.OpBxor:
		return z.Xor(x[0], x[1])
	case api.OpAdd:
		return z.Add(x[0], x[1])
	case api.OpSub:
		return z.Sub(x[0], x[1])
	case api.OpMul:
		return z.Mul(x[0], x[1])
	case api.OpDiv:
		if x[1].Sign() == 0 {
			return z.Sub(power(n.W), big.NewInt(1))
		}
		return z.Div(x[0], x[1])
	case api.OpRem:
		if x[1].Sign() == 0 {
			return z.Set(x[0])
		}
		return z.Mod(x[0], x[1])
	}
	by := uint(new(big.Int).Mod(x[1], big.NewInt(int64(n.W))).Uint64())
	back := uint(n.W) - by
	switch n.Op {
	case api.OpShl:
		return z.Lsh(x[0], by)
	case api.OpShr:
		return z.Rsh(x[0], by)
	case api.OpSar:
		return z.Rsh(signed(x[0], n.W), by)
	case api.OpRol:
		return z.Add(z.Lsh(x[0], by), new(big.Int).Rsh(x[0], back))
	case api.OpRor:
		return z.Add(z.Lsh(x[0], back), new(big.Int).Rsh(x[0], by))
	}
	panic(n.Op)
}

// remaker: Put and Carry by calls within one another: what each term becomes.
type remaker struct {
	from, into *term.Store
	instead    map[string]int // nil: each node is made
	became     map[int]int
}

func (r remaker) roots(roots []int) ([]int, api.Errno) {
	var made []int
	for _, t := range roots {
		if e := r.term(t); e != api.OK {
			return nil, e
		}
		made = append(made, r.became[t])
	}
	return made, api.OK
}

func (r remaker) term(t int) api.Errno {
	if t == 0 || r.became[t] > 0 {
		return api.OK
	}
	n := nodeOf(r.from, t)
	for _, part := range []int{n.A, n.B, n.C} {
		if e := r.term(part); e != api.OK {
			return e
		}
	}
	alike := r.became[n.A] == n.A && r.became[n.B] == n.B && r.became[n.C] == n.C
	if other := r.instead[n.Name]; other > 0 {
		r.became[t] = other
		return api.OK
	}
	if r.instead != nil && alike {
		r.became[t] = t
		return api.OK
	}
	n.A, n.B, n.C = r.became[n.A], r.became[n.B], r.became[n.C]
	var e api.Errno
	r.became[t], e = r.into.Make(n)
	return e
}

// answer: of a call that tells terms.
type answer struct {
	terms []int
	e     api.Errno
}

func told(terms []int, e api.Errno) answer { return answer{terms, e} }

func (a answer) is(b answer) bool { return slices.Equal(a.terms, b.terms) && a.e == b.e }

// wantTerms holds what a call tells against what it must.
func wantTerms(t testing.TB, what any, got answer, terms ...int) {
	t.Helper()
	if want := (answer{terms, api.OK}); !got.is(want) {
		t.Errorf("%v: %v, not %v", what, got, want)
	}
}

// wantRefused holds what a call tells against an error, beside which there is nothing.
func wantRefused(t testing.TB, what any, got answer, e api.Errno) {
	t.Helper()
	if want := (answer{nil, e}); !got.is(want) {
		t.Errorf("%v: %v, not %v", what, got, want)
	}
}

// noTerms: numbers that are no terms of a store.
func noTerms(s *term.Store) []int {
	return []int{0, -1, s.Len() + 1, 1<<63 - 1, -1 << 63}
}

// noNames: texts that are no names.
var noNames = []string{"", "1", "a b", "é", "a-", "abcdefghijklmnopqrstuvwxy", " a", "a\x00", "\xff"}
