package blast

import (
	"fmt"
	"testing"

	"cadence/aig"
	"cadence/term"
)

// printed: of some terms, asked for in their order, in a new graph.
func printed(t testing.TB, s *term.Store, roots []int) string {
	t.Helper()
	b, g := newBlaster(t, s)
	var lits []uint32
	for _, r := range roots {
		lits = append(lits, must[[]uint32](t)(b.Bits(r))...)
	}
	return must[string](t)(g.Print(lits))
}

// among: the same terms in another store, made in another order, among other terms; what the roots became.
func among(t testing.TB, p *picker, s *term.Store, roots []int) (*term.Store, []int) {
	t.Helper()
	other := must[*term.Store](t)(term.New(0))
	became := map[int]int{}
	var carry func(n int) int
	carry = func(n int) int {
		if n == 0 || became[n] > 0 {
			return became[n]
		}
		if p.below(3) == 0 {
			must[int](t)(other.Const(64, p.next()))
			must[int](t)(other.Var(fmt.Sprint("other", p.below(9)), 5))
		}
		from := node(s, n)
		if p.below(2) == 0 {
			from.C = carry(from.C)
			from.B = carry(from.B)
			from.A = carry(from.A)
		} else {
			from.B = carry(from.B)
			from.A = carry(from.A)
			from.C = carry(from.C)
		}
		became[n] = must[int](t)(other.Make(from))
		return became[n]
	}
	made := make([]int, len(roots))
	for i := range roots {
		last := len(roots) - 1 - i
		made[last] = carry(roots[last])
	}
	return other, made
}

// P1106.
func TestStructureAlone(t *testing.T) {
	p := picker(41)
	for range 60 {
		s := grown(t, &p, 80)
		var roots []int
		for range 1 + p.below(5) {
			roots = append(roots, 1+p.below(s.Len()))
		}
		other, made := among(t, &p, s, roots)
		is(t, "the same terms", must[string](t)(other.Dump(made...)), must[string](t)(s.Dump(roots...)))
		want := printed(t, s, roots)
		is(t, "Print", printed(t, other, made), want)
		loaded, again := newStore(t, must[string](t)(s.Dump(roots...)))
		is(t, "Print of what is loaded", printed(t, loaded, again), want)
	}
}

// P1106: gates that others made in the graph ahead, of the blaster's inputs too, change nothing.
func TestStructureAmongGates(t *testing.T) {
	p := picker(42)
	for range 30 {
		s := grown(t, &p, 60)
		roots := []int{1 + p.below(s.Len()), s.Len()}
		want := printed(t, s, roots)
		g := aig.New()
		b := must[*Blaster](t)(New(s, g))
		var lits []uint32
		for _, r := range roots {
			lits = append(lits, must[[]uint32](t)(b.Bits(r))...)
			for range 20 {
				must[uint32](t)(g.Xor(uint32(p.below(2*g.Nodes())), uint32(p.below(2*g.Nodes()))))
			}
		}
		is(t, "Print", must[string](t)(g.Print(lits)), want)
	}
}

// P1106: the text of a sum, by the chapter's words.
func TestPrinted(t *testing.T) {
	s, roots := newStore(t, "1 var x 1\n2 var y 1\n3 sub 1 2\nroots 3\n")
	is(t, "Print", printed(t, s, roots), "aag 5 2 0 1 3\n2\n4\n11\n6 2 5\n8 3 4\n10 7 9\n")
}
