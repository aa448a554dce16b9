package symex

import (
	"fmt"
	"math"
	"slices"
	"strconv"
	"strings"
	"testing"

	"cadence/api"
	"cadence/eval"
	"cadence/flat"
	"cadence/lang"
	"cadence/simp"
)

// picker tells numbers that look like chance, the same ones in each run.
type picker uint64

func (p *picker) next() uint64 {
	*p ^= *p << 13
	*p ^= *p >> 7
	*p ^= *p << 17
	return uint64(*p)
}

func (p *picker) below(n int) int { return int(p.next() >> 11 % uint64(n)) }

func pick[T any](p *picker, list ...T) T { return list[p.below(len(list))] }

// is: what was answered is what the chapter says.
func is(t testing.TB, what string, got, want any) {
	t.Helper()
	if fmt.Sprint(got) != fmt.Sprint(want) {
		t.Fatalf("%s: %v, not %v", what, got, want)
	}
}

// program: the flat code of a text, without the words that all texts begin with.
func program(t testing.TB, text string) api.Flat {
	t.Helper()
	p, line, e := lang.Parse("program p; " + text)
	if e != api.OK {
		t.Fatalf("%s: %d in line %d", text, e, line)
	}
	f, e := flat.Make(p)
	if e != api.OK {
		t.Fatalf("%s: %d", text, e)
	}
	return f
}

// code: flat code that may be, with the declarations of a text, so many temps, and some instructions.
func code(t testing.TB, head string, temps int, list ...api.Ins) api.Flat {
	t.Helper()
	f := program(t, head+" begin end")
	f.Temps, f.Code = temps, list
	if !flat.May(f) {
		t.Fatalf("may not be: %s", shown(f))
	}
	return f
}

// shown: flat code with its declarations.
func shown(f api.Flat) string {
	s, e := flat.Text(f)
	if e != api.OK {
		s = fmt.Sprintf("%+v", f.Code)
	}
	s = fmt.Sprintf("width %d, line %d, %+v, %d temps:\n%s", f.Width, f.Line, f.Decls, f.Temps, s)
	if len(s) > 3000 {
		return s[:2000] + " .. " + s[len(s)-1000:]
	}
	return s
}

// Arguments and instructions.

func temp(n int) api.Arg { return api.Arg{Temp: n} }

func number(n uint64) api.Arg { return api.Arg{Temp: -1, Num: n} }

// ins: an operation that makes a word of others.
func ins(op, dst int, args ...api.Arg) api.Ins {
	x := api.Ins{Op: op, Dst: dst}
	for i, a := range args {
		*[]*api.Arg{&x.A, &x.B, &x.C}[i] = a
	}
	return x
}

func load(dst, array int, at api.Arg) api.Ins {
	return api.Ins{Op: api.FLoad, Dst: dst, Array: array, A: at}
}

func store(array int, at, word api.Arg) api.Ins {
	return api.Ins{Op: api.FStore, Array: array, A: at, B: word}
}

func release(a api.Arg) api.Ins { return api.Ins{Op: api.FRelease, A: a} }

func branch(a api.Arg, then, otherwise []api.Ins) api.Ins {
	return api.Ins{Op: api.FIf, A: a, Then: then, Else: otherwise}
}

func list(x ...api.Ins) []api.Ins { return x }

// partsOf: how many arguments an operation has that makes a word of others.
func partsOf(op int) int {
	switch op {
	case api.ECom, api.ENeg, api.FCopy:
		return 1
	case api.ESel:
		return 3
	}
	return 2
}

// wordOps: the operations that make a word of others.
func wordOps() []int {
	ops := []int{api.FCopy}
	for op := api.ECom; op <= api.ESel; op++ {
		ops = append(ops, op)
	}
	return ops
}

// widths: those that code may have.
func widths() []int { return []int{4, 8, 16, 32, 64} }

// powers: sizes that an array may have, and lines.
func powers() []int { return []int{1, 2, 4, 8, 16, 32, 64, 128, 256} }

// top: the greatest word of a width.
func top(width int) uint64 { return math.MaxUint64 >> (64 - width) }

// edges: words of a width at which something turns.
func edges(width int) []uint64 {
	w, most := uint64(width), top(width)
	half := most>>1 + 1
	list := []uint64{0, 1, 2, 3, w - 1, w, w + 1, half - 1, half, half + 1, most - w, most - 1, most}
	for i := range list {
		list[i] &= most
	}
	slices.Sort(list)
	return slices.Compact(list)
}

// Code with what goes in.

// begun: code, a maker, words for the inputs, and the state at the beginning.
type begun struct {
	t  testing.TB
	f  api.Flat
	m  *simp.Maker
	in []int
	s  *State
}

// variables: what Inputs answers without tails.
func variables(t testing.TB, f api.Flat, m *simp.Maker) []int {
	t.Helper()
	n, e := Length(f)
	if e != api.OK {
		t.Fatalf("no length: %d, of %s", e, shown(f))
	}
	in, e := Inputs(f, m, make([]string, n))
	if e != api.OK {
		t.Fatalf("no inputs: %d, of %s", e, shown(f))
	}
	return in
}

// begin: with a variable for each input word.
func begin(t testing.TB, f api.Flat) *begun {
	t.Helper()
	m := simp.New()
	return beginWith(t, f, m, variables(t, f, m))
}

func beginWith(t testing.TB, f api.Flat, m *simp.Maker, in []int) *begun {
	t.Helper()
	s, e := Begin(f, m, in)
	if e != api.OK || s == nil {
		t.Fatalf("not begun: %v, %d, of %s", s, e, shown(f))
	}
	return &begun{t, f, m, in, s}
}

// do: what Do answers of an instruction that may stand there.
func (b *begun) do(x api.Ins) (Event, bool) {
	b.t.Helper()
	event, seen, e := b.s.Do(x)
	if e != api.OK {
		b.t.Fatalf("not done: %d, %+v", e, x)
	}
	if !seen && event != (Event{}) {
		b.t.Fatalf("no event, and yet %v", event)
	}
	return event, seen
}

// word: of an argument that the code has.
func (b *begun) word(a api.Arg) int {
	b.t.Helper()
	word, e := b.s.Word(a)
	if e != api.OK {
		b.t.Fatalf("no word: %d, of %v", e, a)
	}
	return word
}

// constant: a word of the code's width.
func (b *begun) constant(x uint64) int {
	b.t.Helper()
	t, e := b.m.Const(b.f.Width, x)
	if e != api.OK {
		b.t.Fatal(e)
	}
	return t
}

// paths: what Paths answers.
func (b *begun) paths(most int) ([]Path, bool) {
	b.t.Helper()
	l, more, e := Paths(b.f, b.m, b.in, most)
	if e != api.OK {
		b.t.Fatalf("no ways: %d, of %s", e, shown(b.f))
	}
	return l, more
}

// follow: what Follow answers.
func (b *begun) follow(vals []api.Value) Path {
	b.t.Helper()
	p, e := Follow(b.f, b.m, b.in, vals)
	if e != api.OK {
		b.t.Fatalf("no way: %d, with %v, of %s", e, vals, shown(b.f))
	}
	return p
}

// values: of terms.
func (b *begun) values(terms []int, vals []api.Value) []uint64 {
	b.t.Helper()
	words, e := eval.Values(b.m.Store(), terms, vals)
	if e != api.OK {
		b.t.Fatalf("no values: %d, with %v, of %v", e, vals, terms)
	}
	return words
}

// told: values of the variables i0, i1, .. of the code's width.
func (b *begun) told(words ...uint64) []api.Value {
	var vals []api.Value
	for i, x := range words {
		vals = append(vals, api.Value{Name: "i" + strconv.Itoa(i), W: b.f.Width, Num: x & top(b.f.Width)})
	}
	return vals
}

// Terms, ways and words as text.

// opWords: the operations' words, in their order.
const opWords = "- true false const var not and or xor eq ult ule slt sle ite com neg band bor bxor add sub mul div rem shl shr sar rol ror cat slice zext sext"

// show: a term as text, (add i0 3), (slice i0 2 4), (zext x 16); what has another width than the code tells it: 3:16; T and F are truths.
func (b *begun) show(x int) string {
	b.t.Helper()
	n, e := b.m.Store().Node(x)
	if e != api.OK {
		b.t.Fatalf("no term: %d", x)
	}
	text := n.Name
	switch n.Op {
	case api.OpTrue, api.OpFalse:
		return "FT"[2-n.Op : 3-n.Op]
	case api.OpConst:
		text = fmt.Sprint(n.Num)
	case api.OpVar:
	default:
		return b.showNode(n)
	}
	if n.W != b.f.Width {
		text += ":" + strconv.Itoa(n.W)
	}
	return text
}

func (b *begun) showNode(n api.Node) string {
	text := "(" + strings.Fields(opWords)[n.Op]
	for _, part := range []int{n.A, n.B, n.C} {
		if part > 0 {
			text += " " + b.show(part)
		}
	}
	switch n.Op {
	case api.OpSlice:
		text += fmt.Sprint(" ", n.Num, " ", n.W)
	case api.OpZext, api.OpSext:
		text += fmt.Sprint(" ", n.W)
	}
	return text + ")"
}

// shows: of each, with a comma between.
func (b *begun) shows(terms []int) string {
	var all []string
	for _, x := range terms {
		all = append(all, b.show(x))
	}
	return strings.Join(all, ", ")
}

// showEvent: load 1 (zext (slice i0 0 2) 8); branch 1; divide i0 i1; release i0.
func (b *begun) showEvent(e Event) string {
	b.t.Helper()
	switch {
	case e.Kind == api.EvBranch && e.X == 0 && e.Y == 0:
		return fmt.Sprint("branch ", e.N)
	case e.Kind == api.EvLoad && e.Y == 0:
		return fmt.Sprint("load ", e.N, " ", b.show(e.X))
	case e.Kind == api.EvStore && e.Y == 0:
		return fmt.Sprint("store ", e.N, " ", b.show(e.X))
	case e.Kind == api.EvDivide && e.N == 0:
		return fmt.Sprint("divide ", b.show(e.X), " ", b.show(e.Y))
	case e.Kind == api.EvRelease && e.N == 0 && e.Y == 0:
		return fmt.Sprint("release ", b.show(e.X))
	}
	return fmt.Sprintf("no event: %v", e)
}

func (b *begun) showEvents(events []Event) string {
	b.t.Helper()
	var all []string
	for _, e := range events {
		all = append(all, b.showEvent(e))
	}
	return strings.Join(all, ", ")
}

// showWords: (i0) (3 4) (0).
func (b *begun) showWords(words [][]int) string {
	b.t.Helper()
	var all []string
	for _, l := range words {
		var one []string
		for _, x := range l {
			one = append(one, b.show(x))
		}
		all = append(all, "("+strings.Join(one, " ")+")")
	}
	return strings.Join(all, " ")
}

// showPath: conditions; events; words.
func (b *begun) showPath(p Path) string {
	b.t.Helper()
	return b.shows(p.Conds) + "; " + b.showEvents(p.Events) + "; " + b.showWords(p.State)
}

// waysAre: the first ways, as showPath tells them, and whether there are more.
func (b *begun) waysAre(most int, more bool, want ...string) {
	b.t.Helper()
	l, got := b.paths(most)
	is(b.t, fmt.Sprint("more than ", most), got, more)
	is(b.t, fmt.Sprint("how many of ", most), len(l), len(want))
	for i, p := range l {
		is(b.t, fmt.Sprint("the way ", i), b.showPath(p), want[i])
	}
}
