package flat

import (
	"fmt"
	"math"
	"reflect"
	"slices"
	"strings"
	"testing"

	"cadence/api"
	"cadence/bits"
	"cadence/lang"
)

// picker tells numbers that look like chance, the same ones in each run.
type picker uint64

func (p *picker) next() uint64 {
	*p ^= *p << 13
	*p ^= *p >> 7
	*p ^= *p << 17
	return uint64(*p)
}

func (p *picker) below(n int) int { return int(p.next() >> 11 % uint64(n)) }

func pickOf[T any](p *picker, list ...T) T { return list[p.below(len(list))] }

// is: what was answered is what the chapter says.
func is(t testing.TB, what string, got, want any) {
	t.Helper()
	if fmt.Sprint(got) != fmt.Sprint(want) {
		t.Fatalf("%s: %v, not %v", what, got, want)
	}
}

// cut: a text that is too long to be told.
func cut(s string) string {
	if len(s) > 3000 {
		return s[:2000] + " .. " + s[len(s)-1000:]
	}
	return s
}

// shown: a program's text.
func shown(p api.Program) string {
	s, e := lang.Print(p)
	if e != api.OK {
		s = fmt.Sprintf("%+v", p)
	}
	return cut(s)
}

// shownFlat: flat code with its declarations.
func shownFlat(f api.Flat) string {
	s, e := Text(f)
	if e != api.OK {
		s = fmt.Sprintf("%+v", f.Code)
	}
	return cut(fmt.Sprintf("width %d, line %d, %+v, %d temps:\n%s", f.Width, f.Line, f.Decls, f.Temps, s))
}

// parsed: the program of a text, without the words that all texts begin with.
func parsed(t testing.TB, text string) api.Program {
	t.Helper()
	p, line, e := lang.Parse("program p; " + text)
	if e != api.OK {
		t.Fatalf("%s: %d in line %d", text, e, line)
	}
	return p
}

// madeOf: the flat code of a right program, if it may be.
func madeOf(t testing.TB, p api.Program) api.Flat {
	t.Helper()
	f, e := Make(p)
	if e != api.OK || !May(f) {
		t.Fatalf("%d, %s, of\n%s", e, shownFlat(f), shown(p))
	}
	return f
}

// madeText: the flat code of a text's program.
func madeText(t testing.TB, text string) api.Flat {
	t.Helper()
	return madeOf(t, parsed(t, text))
}

// textOf: what Text answers of flat code that may be.
func textOf(t testing.TB, f api.Flat) string {
	t.Helper()
	s, e := Text(f)
	if e != api.OK {
		t.Fatalf("no text: %d, of %s", e, shownFlat(f))
	}
	return s
}

func dropped(t testing.TB, f api.Flat) api.Flat {
	t.Helper()
	g, e := Drop(f)
	if e != api.OK {
		t.Fatalf("not dropped: %d, of %s", e, shownFlat(f))
	}
	return g
}

func folded(t testing.TB, f api.Flat) api.Flat {
	t.Helper()
	g, e := Fold(f)
	if e != api.OK {
		t.Fatalf("not folded: %d, of %s", e, shownFlat(f))
	}
	return g
}

func sizeOf(t testing.TB, f api.Flat) int {
	t.Helper()
	n, e := Size(f)
	if e != api.OK {
		t.Fatalf("no size: %d, of %s", e, shownFlat(f))
	}
	return n
}

func ranWith(t testing.TB, f api.Flat, in []uint64) api.Ended {
	t.Helper()
	a, e := Run(f, in)
	if e != api.OK {
		t.Fatalf("not run: %d, with %v, of %s", e, in, shownFlat(f))
	}
	return a
}

// oneLine: a text of flat code as the chapter's examples tell it: "t1 = div 1 0; if t1 { t0 = copy 1 }".
func oneLine(text string) string {
	var lines []string
	for line := range strings.Lines(text) {
		lines = append(lines, strings.TrimSpace(line))
	}
	one := strings.Join(lines, "; ")
	return strings.ReplaceAll(strings.ReplaceAll(one, "{; ", "{ "), "; }", " }")
}

// codeIs: what flat code looks like.
func codeIs(t testing.TB, what string, f api.Flat, want string) {
	t.Helper()
	if got := oneLine(textOf(t, f)); got != want {
		t.Fatalf("%s:\n%s\nnot\n%s", what, got, want)
	}
}

// makesCode: what a program becomes.
func makesCode(t testing.TB, text, want string) api.Flat {
	t.Helper()
	f := madeText(t, text)
	codeIs(t, text, f, want)
	return f
}

// Flat code out of a text.

// bareFlat: no instruction yet, with the declarations of a text, and so many temps.
func bareFlat(t testing.TB, head string, temps int) api.Flat {
	t.Helper()
	p := parsed(t, head+" begin end")
	return api.Flat{Width: p.Width, Line: p.Line, Decls: p.Decls, Temps: temps}
}

// read: flat code that may be, with the declarations of a text, so many temps, and the instructions of a text as oneLine tells it, or as Text does.
func read(t testing.TB, head string, temps int, code string) api.Flat {
	t.Helper()
	f := bareFlat(t, head, temps)
	f.Code = readCode(t, f.Decls, code)
	if !May(f) {
		t.Fatalf("may not be: %s", shownFlat(f))
	}
	return f
}

// readCode: the instructions of a text.
func readCode(t testing.TB, decls []api.Decl, code string) []api.Ins {
	t.Helper()
	for _, sign := range []string{";", "{", "}", "[", "]", "="} {
		code = strings.ReplaceAll(code, sign, " "+sign+" ")
	}
	r := &flatReader{t: t, decls: decls}
	for _, word := range strings.Fields(code) {
		if word != ";" {
			r.left = append(r.left, word)
		}
	}
	list := r.block()
	if len(r.left) > 0 {
		t.Fatal("what is left of a code: ", r.left)
	}
	return list
}

type flatReader struct {
	t     testing.TB
	decls []api.Decl
	left  []string
}

func (r *flatReader) next() string {
	if len(r.left) == 0 {
		r.t.Fatal("a code that ends too soon")
	}
	word := r.left[0]
	r.left = r.left[1:]
	return word
}

func (r *flatReader) take(word string) {
	if got := r.next(); got != word {
		r.t.Fatalf("%s where a code should have %s", got, word)
	}
}

func (r *flatReader) block() []api.Ins {
	var list []api.Ins
	for len(r.left) > 0 && r.left[0] != "}" {
		list = append(list, r.ins())
	}
	return list
}

func (r *flatReader) ins() api.Ins {
	word := r.next()
	switch {
	case word == "release":
		return api.Ins{Op: api.FRelease, A: r.arg()}
	case word == "if":
		x := api.Ins{Op: api.FIf, A: r.arg()}
		r.take("{")
		x.Then = r.block()
		r.take("}")
		if len(r.left) > 0 && r.left[0] == "else" {
			r.take("else")
			r.take("{")
			x.Else = r.block()
			r.take("}")
		}
		return x
	case r.left[0] == "[":
		x := api.Ins{Op: api.FStore, Array: r.array(word)}
		x.A = r.index()
		r.take("=")
		x.B = r.arg()
		return x
	}
	r.take("=")
	x := api.Ins{Dst: r.read(word).Temp}
	word = r.next()
	if len(r.left) > 0 && r.left[0] == "[" {
		x.Op, x.Array = api.FLoad, r.array(word)
		x.A = r.index()
		return x
	}
	x.Op = opOf(r.t, word)
	for i := range partsOf(x.Op) {
		*[]*api.Arg{&x.A, &x.B, &x.C}[i] = r.arg()
	}
	return x
}

func (r *flatReader) array(name string) int {
	at := slices.IndexFunc(r.decls, func(d api.Decl) bool { return d.Name == name })
	if at < 0 {
		r.t.Fatal("no array " + name)
	}
	return at
}

func (r *flatReader) index() api.Arg {
	r.take("[")
	a := r.arg()
	r.take("]")
	return a
}

func (r *flatReader) arg() api.Arg { return r.read(r.next()) }

func (r *flatReader) read(word string) api.Arg {
	if rest, is := strings.CutPrefix(word, "t"); is {
		n, e := bits.Number(rest)
		if e != api.OK {
			r.t.Fatal("no temp: " + word)
		}
		return api.Arg{Temp: int(n)}
	}
	n, e := bits.Number(word)
	if e != api.OK {
		r.t.Fatal("no argument: " + word)
	}
	return api.Arg{Temp: -1, Num: n}
}

// kindWords: the chapter's words, in the order of their kinds.
func kindWords() []string {
	return strings.Fields("com neg mul div rem add sub shl shr rol ror and xor or eq ne lt le gt ge sar slt sel")
}

// opOf: the operation of a word.
func opOf(t testing.TB, word string) int {
	t.Helper()
	if word == "copy" {
		return api.FCopy
	}
	at := slices.Index(kindWords(), word)
	if at < 0 {
		t.Fatal("no operation: " + word)
	}
	return api.ECom + at
}

// partsOf: how many arguments an operation has that makes a word of others.
func partsOf(op int) int {
	switch op {
	case api.ECom, api.ENeg, api.FCopy:
		return 1
	case api.ESel:
		return 3
	}
	return 2
}

// allOps: the operations that there are.
func allOps() []int {
	list := []int{api.FCopy, api.FLoad, api.FStore, api.FIf, api.FRelease}
	for op := api.ECom; op <= api.ESel; op++ {
		list = append(list, op)
	}
	return list
}

// signs: how each kind of two parts is written; %s are the parts.
func signs() map[int]string {
	all := map[int]string{api.ESar: "sar(%s, %s)", api.ESlt: "slt(%s, %s)"}
	for i, sign := range strings.Fields("* / % + - << >> <<< >>> & ^ | == != < <= > >=") {
		all[api.EMul+i] = "%s " + strings.ReplaceAll(sign, "%", "%%") + " %s"
	}
	return all
}

// joinedText: an expression of a kind of two parts.
func joinedText(kind int, a, b string) string { return fmt.Sprintf(signs()[kind], a, b) }

// widths: those that a program may have.
func widths() []int { return []int{4, 8, 16, 32, 64} }

// top: the greatest word of a width.
func top(width int) uint64 { return math.MaxUint64 >> (64 - width) }

// edges: words of a width at which something turns.
func edges(width int) []uint64 {
	w, most := uint64(width), top(width)
	half := most>>1 + 1
	list := []uint64{0, 1, 2, 3, w - 1, w, w + 1, 2*w - 1, 2 * w, half - 1, half, half + 1, most - w, most - 1, most}
	for i := range list {
		list[i] &= most
	}
	slices.Sort(list)
	return slices.Compact(list)
}

// inputs: a list of words, for what is handed in.
func inputs(list ...uint64) []uint64 { return list }

// toldState: as chapter 17 tells it: (5) (1 2) (7).
func toldState(state [][]uint64) string {
	var parts []string
	for _, list := range state {
		parts = append(parts, "("+strings.Trim(fmt.Sprint(list), "[]")+")")
	}
	return strings.Join(parts, " ")
}

// toldTrace: as chapter 17 tells it: load 2 1; branch 1; release 7.
func toldTrace(trace []api.Event) string {
	var parts []string
	for _, e := range trace {
		switch {
		case e.Kind == api.EvBranch && e.B == 0:
			parts = append(parts, fmt.Sprint("branch ", e.A))
		case e.Kind == api.EvRelease && e.B == 0:
			parts = append(parts, fmt.Sprint("release ", e.A))
		case e.Kind == api.EvLoad, e.Kind == api.EvStore, e.Kind == api.EvDivide:
			word := []string{api.EvLoad: "load", api.EvStore: "store", api.EvDivide: "divide"}[e.Kind]
			parts = append(parts, fmt.Sprint(word, " ", e.A, " ", e.B))
		default:
			parts = append(parts, fmt.Sprintf("no event: %v", e))
		}
	}
	return strings.Join(parts, "; ")
}

// endIs: flat code ends so.
func endIs(t testing.TB, f api.Flat, in []uint64, state, trace string) {
	t.Helper()
	a := ranWith(t, f, in)
	if got := toldState(a.State); got != state {
		t.Fatalf("%v: the state is %s, not %s, of %s", in, got, state, shownFlat(f))
	}
	if got := toldTrace(a.Trace); got != trace {
		t.Fatalf("%v: the trace is %s, not %s, of %s", in, got, trace, shownFlat(f))
	}
}

// Comparing and copying.

// plainCode: instructions whose empty lists are all nil, so that they can be compared whole; nothing is shared.
func plainCode(list []api.Ins) []api.Ins {
	var out []api.Ins
	for _, x := range list {
		x.Then, x.Else = plainCode(x.Then), plainCode(x.Else)
		out = append(out, x)
	}
	return out
}

// plainFlat: likewise of flat code.
func plainFlat(f api.Flat) api.Flat {
	var decls []api.Decl
	for _, d := range f.Decls {
		d.Values = append([]uint64(nil), d.Values...)
		decls = append(decls, d)
	}
	f.Decls, f.Code = decls, plainCode(f.Code)
	return f
}

// same: flat code is the same, in all its fields.
func same(t testing.TB, what string, got, want api.Flat) {
	t.Helper()
	if !reflect.DeepEqual(plainFlat(got), plainFlat(want)) {
		t.Fatalf("%s:\n%s\nnot\n%s", what, shownFlat(got), shownFlat(want))
	}
}
