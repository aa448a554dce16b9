package mem

import (
	"fmt"
	"strconv"
	"strings"
	"testing"

	"cadence/api"
	"cadence/simp"
	"cadence/term"
)

// picker tells numbers that look like chance, the same ones in each run.
type picker uint64

func (p *picker) next() uint64 {
	*p ^= *p << 13
	*p ^= *p >> 7
	*p ^= *p << 17
	return uint64(*p)
}

func (p *picker) below(n int) int { return int(p.next() >> 11 % uint64(n)) }

func pick[T any](p *picker, list ...T) T { return list[p.below(len(list))] }

// is: what was answered is what the chapter says.
func is(t testing.TB, what string, got, want any) {
	t.Helper()
	if fmt.Sprint(got) != fmt.Sprint(want) {
		t.Fatalf("%s: %v, not %v", what, got, want)
	}
}

// opOf: the operation of a word of term.Dump.
func opOf(word string) int {
	words := "- true false const var not and or xor eq ult ule slt sle ite com neg band bor bxor add sub mul div rem shl shr sar rol ror cat slice zext sext"
	for op, w := range strings.Fields(words) {
		if w == word {
			return op
		}
	}
	panic("no operation: " + word)
}

// makes: what makes terms of nodes: a maker, or a store that takes them as they are.
type makes interface {
	Make(n api.Node) (int, api.Errno)
}

// written makes the terms of a text, parts ahead: (add k 3), (slice k 2 4), (zext k 16); words have 4 bits, 3:16 and k:16 have 16, q:0 is a truth; T and F are truths.
type written struct {
	t     testing.TB
	by    makes
	store *term.Store
	rest  []string
}

// read: the term of a text.
func read(t testing.TB, by makes, store *term.Store, text string) int {
	t.Helper()
	w := &written{t, by, store, strings.Fields(strings.NewReplacer("(", " ( ", ")", " ) ").Replace(text))}
	made := w.term()
	if len(w.rest) > 0 {
		t.Fatalf("%q: behind its end: %q", text, w.rest)
	}
	return made
}

func (w *written) token() string {
	s := w.rest[0]
	w.rest = w.rest[1:]
	return s
}

func (w *written) number() int {
	n, err := strconv.Atoi(w.token())
	if err != nil {
		w.t.Fatal(err)
	}
	return n
}

func (w *written) width(t int) int {
	n, _ := w.store.Node(t)
	return n.W
}

func (w *written) term() int {
	w.t.Helper()
	s := w.token()
	var n api.Node
	if s == "(" {
		n = w.node()
	} else {
		n = leaf(s)
	}
	made, e := w.by.Make(n)
	if e != api.OK {
		w.t.Fatalf("Make(%+v): %v", n, e)
	}
	return made
}

func (w *written) node() api.Node {
	n := api.Node{Op: opOf(w.token()), A: w.term()}
	n.W = w.width(n.A)
	switch n.Op {
	case api.OpSlice:
		n.Num, n.W = uint64(w.number()), w.number()
	case api.OpZext, api.OpSext:
		n.W = w.number()
	case api.OpNot, api.OpCom, api.OpNeg:
	case api.OpIte:
		n.B, n.C = w.term(), w.term()
		n.W = w.width(n.B)
	case api.OpCat:
		n.B = w.term()
		n.W += w.width(n.B)
	default:
		n.B = w.term()
		if n.Op < api.OpCom {
			n.W = 0
		}
	}
	if end := w.token(); end != ")" {
		w.t.Fatalf("%q where ) must be", end)
	}
	return n
}

func leaf(s string) api.Node {
	switch s {
	case "T":
		return api.Node{Op: api.OpTrue}
	case "F":
		return api.Node{Op: api.OpFalse}
	}
	name, tail, wide := strings.Cut(s, ":")
	n := api.Node{Op: api.OpVar, Name: name, W: 4}
	if wide {
		n.W, _ = strconv.Atoi(tail)
	}
	if x, err := strconv.ParseUint(name, 0, 64); err == nil {
		n.Op, n.Name, n.Num = api.OpConst, "", x
	}
	return n
}

// made: what a maker makes of a text.
func made(t testing.TB, m *simp.Maker, text string) int {
	t.Helper()
	return read(t, m, m.Store(), text)
}

// raw: the term of a text as it stands there, without a rule, in the maker's store.
func raw(t testing.TB, m *simp.Maker, text string) int {
	t.Helper()
	return read(t, m.Store(), m.Store(), text)
}

// dump: of a store's terms.
func dump(t testing.TB, s *term.Store, roots ...int) string {
	t.Helper()
	text, e := s.Dump(roots...)
	if e != api.OK {
		t.Fatal(e, roots)
	}
	return text
}

// asItIs: the Dump of the term of a text, made without a rule.
func asItIs(t testing.TB, text string) string {
	t.Helper()
	s, _ := term.New(0)
	return dump(t, s, read(t, s, s, text))
}

// array: of a list of texts, made by a maker.
func array(t testing.TB, m *simp.Maker, texts ...string) *Array {
	t.Helper()
	var cells []int
	for _, text := range texts {
		cells = append(cells, made(t, m, text))
	}
	return arrayOf(t, m, cells...)
}

func arrayOf(t testing.TB, m *simp.Maker, cells ...int) *Array {
	t.Helper()
	a, e := New(m, cells...)
	if e != api.OK || a == nil {
		t.Fatalf("New of %d cells: %v, %v", len(cells), a, e)
	}
	return a
}

// numbered: an array of so many variables of a width: e0, e1, ..
func numbered(t testing.TB, m *simp.Maker, n, w int) *Array {
	t.Helper()
	var texts []string
	for i := range n {
		texts = append(texts, fmt.Sprintf("e%d:%d", i, w))
	}
	return array(t, m, texts...)
}

// load: what Load answers of an index that is right.
func load(t testing.TB, a *Array, i int) int {
	t.Helper()
	v, e := a.Load(i)
	if e != api.OK {
		t.Fatalf("Load(%d): %v", i, e)
	}
	return v
}

// store: Store of what is right.
func store(t testing.TB, a *Array, i, v int) {
	t.Helper()
	if e := a.Store(i, v); e != api.OK {
		t.Fatalf("Store(%d, %d): %v", i, v, e)
	}
}

// wantText: a term is that of a text.
func wantText(t testing.TB, what string, m *simp.Maker, got int, want string) {
	t.Helper()
	if got, want := dump(t, m.Store(), got), asItIs(t, want); got != want {
		t.Fatalf("%s:\n%snot\n%s", what, got, want)
	}
}

// wantCells: an array's cells are those of texts.
func wantCells(t testing.TB, what string, m *simp.Maker, a *Array, want ...string) {
	t.Helper()
	is(t, what+": the size", a.Size(), len(want))
	cells := a.Cells()
	is(t, what+": how many cells", len(cells), len(want))
	for n, cell := range cells {
		wantText(t, fmt.Sprintf("%s: the cell %d", what, n), m, cell, want[n])
	}
}

// each: as many texts as cells, each with the cell's number in place of #.
func each(n int, text string) []string {
	var list []string
	for i := range n {
		list = append(list, strings.ReplaceAll(text, "#", strconv.Itoa(i)))
	}
	return list
}

// noTerms: numbers that are no terms of a maker's store.
func noTerms(m *simp.Maker) []int {
	return []int{0, -1, m.Store().Len() + 1, 1 << 40, 1<<63 - 1, -1 << 63}
}

// sizes: those that an array may have.
func sizes() []int { return []int{1, 2, 4, 8, 16, 32, 64, 128, 256} }
