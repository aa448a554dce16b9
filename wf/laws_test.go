package wf

import (
	"fmt"
	"slices"
	"strconv"
	"strings"
	"testing"

	"cadence/api"
	"cadence/lang"
)

// wordy writes a program with brackets around all, with each width, line and else told, and any blanks between.
type wordy struct {
	*picker
	text strings.Builder
}

func (w *wordy) put(words ...string) {
	for _, s := range words {
		w.text.WriteString(pickOf(w.picker, " ", "\n", "\t ", " // a comment; end\n"))
		w.text.WriteString(s)
	}
}

// number: decimal, or hexadecimal with any letters.
func (w *wordy) number(n uint64) string {
	return pickOf(w.picker, strconv.FormatUint(n, 10), "0x"+strconv.FormatUint(n, 16), "0x0"+strings.ToUpper(strconv.FormatUint(n, 16)))
}

func (w *wordy) expr(e api.Expr) {
	w.put("(")
	signs := strings.Fields("~ - * / % + - << >> <<< >>> & ^ | == != < <= > >= sar slt sel")
	switch {
	case e.Kind == api.ENum:
		w.put(w.number(e.Num))
	case e.Kind == api.EName:
		w.put(e.Name)
	case e.Kind == api.ELoad:
		w.put(e.Name, "[")
		w.expr(e.Kids[0])
		w.put("]")
	case e.Kind <= api.ENeg:
		w.put(signs[e.Kind-api.ECom])
		w.expr(e.Kids[0])
	case e.Kind <= api.EGe:
		w.expr(e.Kids[0])
		w.put(signs[e.Kind-api.ECom])
		w.expr(e.Kids[1])
	default:
		w.put(signs[e.Kind-api.ECom], "(")
		for i, k := range e.Kids {
			if i > 0 {
				w.put(",")
			}
			w.expr(k)
		}
		w.put(")")
	}
	w.put(")")
}

func (w *wordy) stmts(list []api.Stmt) {
	for _, s := range list {
		w.stmt(s)
	}
}

func (w *wordy) stmt(s api.Stmt) {
	switch s.Kind {
	case api.SSet, api.SStore:
		w.put(s.Name)
		if s.Kind == api.SStore {
			w.put("[")
			w.expr(s.At)
			w.put("]")
		}
		w.put("=")
		w.expr(s.E)
		w.put(";")
	case api.SIf:
		w.put("if")
		w.expr(s.E)
		w.put("{")
		w.stmts(s.Then)
		w.put("}", "else", "{")
		w.stmts(s.Else)
		w.put("}")
	case api.SFor:
		w.put("for", s.Name, w.number(s.Lo), w.number(s.Hi), "{")
		w.stmts(s.Then)
		w.put("}")
	case api.SRelease:
		w.put("release", s.Name, ";")
	}
}

func (w *wordy) program(p api.Program) string {
	w.put("program", p.Name, ";", "line", w.number(uint64(p.Line)), ";", "width", w.number(uint64(p.Width)), ";")
	for _, d := range p.Decls {
		w.put([]string{1: "public", 2: "secret", 3: "const", 4: "var", 5: "out"}[d.Kind], d.Name)
		if d.Size > 0 {
			w.put("[", w.number(uint64(d.Size)), "]")
		}
		for i, v := range d.Values {
			w.put([]string{"=", ","}[min(i, 1)], w.number(v))
		}
		w.put(";")
	}
	w.put("begin")
	w.stmts(p.Body)
	w.put("end")
	return w.text.String()
}

// TestTexts: Check hangs on the tree alone; Print of a right program is read as a right one with the same Size (P1602).
func TestTexts(t *testing.T) {
	k := picker(1602)
	rights := 0
	for i := range 1500 {
		m := maker{picker: &k, wrong: []int{0, 20, 100}[i%3]}
		p := m.program()
		want := faultOf(t, p)
		size, _ := Size(p)
		texts := []string{(&wordy{picker: &k}).program(p), (&wordy{picker: &k}).program(p)}
		printed, e := lang.Print(p)
		is(t, "its text", e, api.OK)
		for _, text := range append(texts, printed) {
			read, _, e := lang.Parse(text)
			if e != api.OK {
				t.Fatalf("%d, of %s", e, text)
			}
			faultIs(t, "read", read, want)
			again, _ := Size(read)
			is(t, "its size", again, size)
		}
		if want.code == api.OK {
			rights++
		}
	}
	if rights < 500 {
		t.Fatal("too few: ", rights)
	}
	for _, f := range fulls() {
		if printed, e := lang.Print(wide(32, f.body...)); e == api.OK {
			read, _, _ := lang.Parse(printed)
			sizeIs(t, f.what, read, 65536)
		}
	}
}

// inputWords: how many words the inputs of a program have.
func inputWords(p api.Program) int {
	n := 0
	for _, d := range p.Decls {
		if d.Kind == api.DPublic || d.Kind == api.DSecret {
			n += max(1, d.Size)
		}
	}
	return n
}

// TestOtherKinds: what is right stays so with declarations of other kinds, as long as clause 9 holds (P1603).
func TestOtherKinds(t *testing.T) {
	k := picker(1603)
	counts := map[bool]int{}
	for range 1500 {
		p := rightProgram(t, &k)
		for i := range k.below(20) {
			p.Decls = append(p.Decls, array(pickOf(&k, api.DVar, api.DOut), fmt.Sprint("more", i), 256))
		}
		right(t, "with more", p)
		size, _ := Size(p)
		for range 4 {
			for i := range p.Decls {
				if p.Decls[i].Kind != api.DConst {
					p.Decls[i].Kind = pickOf(&k, api.DPublic, api.DSecret, api.DPublic, api.DSecret, api.DVar, api.DOut)
				}
			}
			fits := inputWords(p) <= 4096
			counts[fits]++
			if fits {
				sizeIs(t, "other kinds", p, size)
			} else {
				faultIs(t, "other kinds", p, at(9, -1))
			}
		}
	}
	if counts[true] < 1000 || counts[false] < 50 {
		t.Fatal("too few: ", counts)
	}
}

// rightProgram: any program that is right.
func rightProgram(t testing.TB, k *picker) api.Program {
	t.Helper()
	for range 100 {
		m := maker{picker: k}
		if p := m.program(); Check(p) == api.OK {
			return copyProgram(p)
		}
	}
	t.Fatal("no right program")
	return api.Program{}
}

// renamed: statements in which a name is another one, but in loops of that name.
func renamed(body []api.Stmt, from, to string) {
	for i := range body {
		s := &body[i]
		if s.Kind == api.SFor && s.Name == from {
			continue
		}
		if s.Name == from {
			s.Name = to
		}
		renamedExpr(&s.At, from, to)
		renamedExpr(&s.E, from, to)
		renamed(s.Then, from, to)
		renamed(s.Else, from, to)
	}
}

func renamedExpr(e *api.Expr, from, to string) {
	if e.Name == from {
		e.Name = to
	}
	for i := range e.Kids {
		renamedExpr(&e.Kids[i], from, to)
	}
}

// loopsOf: all loops of a program.
func loopsOf(body []api.Stmt) []*api.Stmt {
	var out []*api.Stmt
	for i := range body {
		if body[i].Kind == api.SFor {
			out = append(out, &body[i])
		}
		out = append(out, loopsOf(body[i].Then)...)
		out = append(out, loopsOf(body[i].Else)...)
	}
	return out
}

// allNames: each name that stands somewhere in a program.
func allNames(p api.Program) []string {
	out := []string{p.Name}
	for _, s := range spotsOf(p) {
		switch {
		case s.decl != nil:
			out = append(out, s.decl.Name)
		case s.stmt != nil:
			out = append(out, s.stmt.Name)
		default:
			out = append(out, s.expr.Name)
		}
	}
	return out
}

// newName: a name that stands nowhere in a program.
func newName(k *picker, p api.Program) string {
	for {
		s := pickOf(k, "y", "Y", "_", "A", "zz", "x1", "i99", "abcdefghijklmnopqrstuvwx", "T_", "p", "i1")
		if !slices.Contains(allNames(p), s) {
			return s
		}
	}
}

// TestRenamed: a declaration or a loop that is called otherwise everywhere where it is meant (P1604).
func TestRenamed(t *testing.T) {
	k := picker(1604)
	loops := 0
	for range 300 {
		p := rightProgram(t, &k)
		size, _ := Size(p)
		things := thingsOf(t, p)
		for i := range p.Decls {
			q := copyProgram(p)
			fresh := newName(&k, p)
			renamed(q.Body, q.Decls[i].Name, fresh)
			q.Decls[i].Name = fresh
			sizeIs(t, "a declaration", q, size)
			is(t, "its things", thingsOf(t, q), things)
		}
		for i := range loopsOf(p.Body) {
			q := copyProgram(p)
			fresh := newName(&k, p)
			s := loopsOf(q.Body)[i]
			renamed(s.Then, s.Name, fresh)
			s.Name = fresh
			sizeIs(t, "a loop", q, size)
			loops++
		}
		q := copyProgram(p)
		q.Name = newName(&k, p)
		sizeIs(t, "the program", q, size)
	}
	if loops < 500 {
		t.Fatal("too few: ", loops)
	}
}

// TestHalfRenamed: called otherwise in all places but one, it is not right any more (that the renaming above reaches all of them).
func TestHalfRenamed(t *testing.T) {
	p := base(repeat("i", 0, 2, set("x", name("i"))), set("x", load("a", name("x"))))
	q := copyProgram(p)
	q.Decls[0].Name = "y"
	faultIs(t, "a declaration", q, at(11, 4))
	q = copyProgram(p)
	q.Body[0].Name = "j"
	faultIs(t, "a loop", q, at(11, 5))
	q = copyProgram(p)
	q.Body[1].E.Name = "b"
	faultIs(t, "a use", q, at(11, 7))
}
