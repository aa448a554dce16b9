package pair

import (
	"fmt"
	"math"
	"slices"
	"strconv"
	"strings"
	"testing"

	"cadence/api"
	"cadence/flat"
	"cadence/lang"
)

// picker tells numbers that look like chance, the same ones in each run.
type picker uint64

func (p *picker) next() uint64 {
	*p ^= *p << 13
	*p ^= *p >> 7
	*p ^= *p << 17
	return uint64(*p)
}

func (p *picker) below(n int) int { return int(p.next() >> 11 % uint64(n)) }

func pick[T any](p *picker, list ...T) T { return list[p.below(len(list))] }

// is: what was answered is what the chapter says.
func is(t testing.TB, what string, got, want any) {
	t.Helper()
	if fmt.Sprint(got) != fmt.Sprint(want) {
		t.Fatalf("%s: %v, not %v", what, got, want)
	}
}

// program: the flat code of a text, without the words that all texts begin with.
func program(t testing.TB, text string) api.Flat {
	t.Helper()
	p, line, e := lang.Parse("program p; " + text)
	if e != api.OK {
		t.Fatalf("%s: %d in line %d", text, e, line)
	}
	f, e := flat.Make(p)
	if e != api.OK {
		t.Fatalf("%s: %d", text, e)
	}
	return f
}

// code: flat code that may be, with the declarations of a text, so many temps, and some instructions.
func code(t testing.TB, head string, temps int, list ...api.Ins) api.Flat {
	t.Helper()
	f := program(t, head+" begin end")
	f.Temps, f.Code = temps, list
	if !flat.May(f) {
		t.Fatalf("may not be: %s", shown(f))
	}
	return f
}

// shown: flat code with its declarations.
func shown(f api.Flat) string {
	s, e := flat.Text(f)
	if e != api.OK {
		s = fmt.Sprintf("%+v", f.Code)
	}
	s = fmt.Sprintf("width %d, line %d, %+v, %d temps:\n%s", f.Width, f.Line, f.Decls, f.Temps, s)
	if len(s) > 3000 {
		return s[:2000] + " .. " + s[len(s)-1000:]
	}
	return s
}

// Arguments and instructions.

func temp(n int) api.Arg { return api.Arg{Temp: n} }

func number(n uint64) api.Arg { return api.Arg{Temp: -1, Num: n} }

// ins: an operation that makes a word of others.
func ins(op, dst int, args ...api.Arg) api.Ins {
	x := api.Ins{Op: op, Dst: dst}
	for i, a := range args {
		*[]*api.Arg{&x.A, &x.B, &x.C}[i] = a
	}
	return x
}

func load(dst, array int, at api.Arg) api.Ins {
	return api.Ins{Op: api.FLoad, Dst: dst, Array: array, A: at}
}

func store(array int, at, word api.Arg) api.Ins {
	return api.Ins{Op: api.FStore, Array: array, A: at, B: word}
}

func release(a api.Arg) api.Ins { return api.Ins{Op: api.FRelease, A: a} }

func branch(a api.Arg, then, otherwise []api.Ins) api.Ins {
	return api.Ins{Op: api.FIf, A: a, Then: then, Else: otherwise}
}

func list(x ...api.Ins) []api.Ins { return x }

// partsOf: how many arguments an operation has that makes a word of others.
func partsOf(op int) int {
	switch op {
	case api.ECom, api.ENeg, api.FCopy:
		return 1
	case api.ESel:
		return 3
	}
	return 2
}

// wordOps: the operations that make a word of others.
func wordOps() []int {
	ops := []int{api.FCopy}
	for op := api.ECom; op <= api.ESel; op++ {
		ops = append(ops, op)
	}
	return ops
}

// widths: those that code may have.
func widths() []int { return []int{4, 8, 16, 32, 64} }

// powers: sizes that an array may have, and lines.
func powers() []int { return []int{1, 2, 4, 8, 16, 32, 64, 128, 256} }

// top: the greatest word of a width.
func top(width int) uint64 { return math.MaxUint64 >> (64 - width) }

// edges: words of a width at which something turns.
func edges(width int) []uint64 {
	w, most := uint64(width), top(width)
	half := most>>1 + 1
	list := []uint64{0, 1, 2, 3, w - 1, w, w + 1, half - 1, half, half + 1, most - w, most - 1, most}
	for i := range list {
		list[i] &= most
	}
	slices.Sort(list)
	return slices.Compact(list)
}

// A way, and what is told of it.

// going: code, and a way through it.
type going struct {
	t testing.TB
	f api.Flat
	w *Way
}

// start: what Start answers of code that may be.
func start(t testing.TB, f api.Flat) *going {
	t.Helper()
	w, e := Start(f)
	if e != api.OK || w == nil {
		t.Fatalf("not begun: %v, %d, of %s", w, e, shown(f))
	}
	return &going{t, f, w}
}

// is: Next answers this, with the truth as text.
func (g *going) is(room int64, kind int, truth string, weight int64) {
	g.t.Helper()
	is(g.t, fmt.Sprint("Next(", room, ")"), g.ask(g.w.Next(room)), fmt.Sprintf("%s %d %s", kindWords[kind], weight, truth))
}

// kindWords: what asks are called.
var kindWords = [...]string{"nothing", "differ", "branch", "end", "room"}

// ask: differ 16 (eq x0 y0).
func (g *going) ask(a Ask) string {
	g.t.Helper()
	if a.Truth == 0 {
		return fmt.Sprintf("%s %d ", kindWords[a.Kind], a.Weight)
	}
	return fmt.Sprintf("%s %d %s", kindWords[a.Kind], a.Weight, g.show(a.Truth))
}

// agree: to what it waits for.
func (g *going) agree() {
	g.t.Helper()
	is(g.t, "Agree", g.w.Agree(), api.OK)
}

// fork: both ways of a branch.
func (g *going) fork() (*going, *going) {
	g.t.Helper()
	then, otherwise, e := g.w.Fork()
	if e != api.OK || then == nil || otherwise == nil {
		g.t.Fatalf("no fork: %v, %v, %d", then, otherwise, e)
	}
	return &going{g.t, g.f, then}, &going{g.t, g.f, otherwise}
}

// word: the term of a copy's temp.
func (g *going) word(copy, temp int) int {
	g.t.Helper()
	word, e := g.w.Word(copy, temp)
	if e != api.OK {
		g.t.Fatalf("no word: %d, of %d in %d", e, temp, copy)
	}
	return word
}

// cells: the terms of a copy's array.
func (g *going) cells(copy, array int) []int {
	g.t.Helper()
	cells, e := g.w.Cells(copy, array)
	if e != api.OK {
		g.t.Fatalf("no cells: %d, of %d in %d", e, array, copy)
	}
	return cells
}

// words: of a temp in both copies, x0 | y0.
func (g *going) words(temp int) string {
	g.t.Helper()
	return g.show(g.word(1, temp)) + " | " + g.show(g.word(2, temp))
}

// arrays: of an array in both copies, x0, x1 | y0, y1.
func (g *going) arrays(array int) string {
	g.t.Helper()
	return g.shows(g.cells(1, array)) + " | " + g.shows(g.cells(2, array))
}

// so: how many events there were, and the assumptions as text.
func (g *going) so(events int, assumed string) {
	g.t.Helper()
	is(g.t, "events and assumptions", []any{g.w.Events(), g.shows(g.w.Assumed())}, []any{events, assumed})
}

// opWords: the operations' words, in their order.
const opWords = "- true false const var not and or xor eq ult ule slt sle ite com neg band bor bxor add sub mul div rem shl shr sar rol ror cat slice zext sext"

// show: a term as text, (add i0 3), (slice i0 2 4), (zext x 16); what has another width than the code tells it: 3:16; T and F are truths.
func (g *going) show(x int) string {
	g.t.Helper()
	n, e := g.w.Store().Node(x)
	if e != api.OK {
		g.t.Fatalf("no term: %d", x)
	}
	text := n.Name
	switch n.Op {
	case api.OpTrue, api.OpFalse:
		return "FT"[2-n.Op : 3-n.Op]
	case api.OpConst:
		text = fmt.Sprint(n.Num)
	case api.OpVar:
	default:
		return g.showNode(n)
	}
	if n.W != g.f.Width {
		text += ":" + strconv.Itoa(n.W)
	}
	return text
}

func (g *going) showNode(n api.Node) string {
	text := "(" + strings.Fields(opWords)[n.Op]
	for _, part := range []int{n.A, n.B, n.C} {
		if part > 0 {
			text += " " + g.show(part)
		}
	}
	switch n.Op {
	case api.OpSlice:
		text += fmt.Sprint(" ", n.Num, " ", n.W)
	case api.OpZext, api.OpSext:
		text += fmt.Sprint(" ", n.W)
	}
	return text + ")"
}

// shows: of each, with a comma between.
func (g *going) shows(terms []int) string {
	var all []string
	for _, x := range terms {
		all = append(all, g.show(x))
	}
	return strings.Join(all, ", ")
}
