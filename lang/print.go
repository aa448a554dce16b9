package lang

import (
	"slices"

	"cadence/api"
	"cadence/bits"
)

// writer writes trees of the form that Parse gives them. What has too much open it gives up by a panic, which Print catches; what is too long it goes through to its end, since it may have too much open there.
type writer struct {
	text               []byte
	open               int // as of a parser
	mostOpen, mostText int
}

// full: is there more text than there may be?
func (w *writer) full() bool { return len(w.text) > w.mostText }

// put writes pieces of text.
func (w *writer) put(pieces ...string) {
	for _, s := range pieces {
		if !w.full() {
			w.text = append(w.text, s...)
		}
	}
}

// enter writes a sign that is open behind it.
func (w *writer) enter(sign string) {
	if w.open == w.mostOpen {
		panic(fault{code: api.ErrArg})
	}
	w.open++
	w.put(sign)
}

// leave closes what was opened last, by a sign, if it has one.
func (w *writer) leave(sign string) {
	w.open--
	w.put(sign)
}

// program writes a program.
func (w *writer) program(p api.Program) {
	w.put("program ", p.Name, ";\n")
	w.setting("width ", p.Width, usualWidth)
	w.setting("line ", p.Line, usualLine)
	for _, d := range p.Decls {
		w.decl(d)
	}
	w.put("begin\n")
	w.stmts(p.Body)
	w.put("end\n")
}

// setting writes a width or a line, if it is not the usual one.
func (w *writer) setting(word string, num, usual int) {
	if num != usual {
		w.put(word, bits.Text(uint64(num)), ";\n")
	}
}

// decl writes a declaration.
func (w *writer) decl(d api.Decl) {
	w.put(declWords[d.Kind], " ", d.Name)
	if d.Size != 0 {
		w.put("[", bits.Text(uint64(d.Size)), "]")
	}
	between := " = "
	for _, v := range d.Values {
		w.put(between, bits.Text(v))
		between = ", "
	}
	w.put(";\n")
}

// stmts writes statements, each on a line of its own.
func (w *writer) stmts(list []api.Stmt) {
	for i := range list {
		w.margin()
		w.stmt(&list[i])
		w.put("\n")
	}
}

// margin writes the blanks ahead of a statement: there just the blocks around it are open.
func (w *writer) margin() {
	w.put("  ")
	for range w.open {
		w.put("  ")
	}
}

// stmt writes a statement.
func (w *writer) stmt(s *api.Stmt) {
	switch s.Kind {
	case api.SSet:
		w.put(s.Name)
		w.assigned(s.E)
	case api.SStore:
		w.indexed(s.Name, s.At)
		w.assigned(s.E)
	case api.SIf:
		w.branch(s)
	case api.SFor:
		w.put("for ", s.Name, " ", bits.Text(s.Lo), " ", bits.Text(s.Hi))
		w.block(s.Then)
	case api.SRelease:
		w.put("release ", s.Name, ";")
	}
}

// assigned writes what something is set to.
func (w *writer) assigned(e api.Expr) {
	w.put(" = ")
	w.expr(e, ruleExpr)
	w.put(";")
}

// branch writes an if.
func (w *writer) branch(s *api.Stmt) {
	w.put("if ")
	w.expr(s.E, ruleExpr)
	w.block(s.Then)
	if len(s.Else) > 0 {
		w.put(" else")
		w.block(s.Else)
	}
}

// block writes a block behind what stands ahead of it on the line.
func (w *writer) block(list []api.Stmt) {
	w.enter(" {")
	w.put("\n")
	w.stmts(list)
	w.leave("")
	w.margin()
	w.put("}")
}

// expr writes an expression at a place that takes a rule and later ones.
func (w *writer) expr(e api.Expr, rule int) {
	if shapes[e.Kind].rule >= rule {
		w.bare(e)
		return
	}
	w.enter("(")
	w.bare(e)
	w.leave(")")
}

// bare writes an expression without brackets around it.
func (w *writer) bare(e api.Expr) {
	is := shapes[e.Kind]
	switch {
	case e.Kind == api.ENum:
		w.put(bits.Text(e.Num))
	case e.Kind == api.EName:
		w.put(e.Name)
	case e.Kind == api.ELoad:
		w.indexed(e.Name, e.Kids[0])
	case isBinary(e.Kind):
		w.chain(e)
	case is.rule == ruleUnary:
		w.enter(is.sign)
		w.expr(e.Kids[0], ruleUnary)
		w.leave("")
	default:
		w.call(is.sign, e.Kids)
	}
}

// chain writes an operator between two parts. It goes down the left ones by a loop, since they lie as deep as a chain of operators is long.
func (w *writer) chain(e api.Expr) {
	var chain []api.Expr
	rule := ruleExpr
	for isBinary(e.Kind) && shapes[e.Kind].rule >= rule {
		chain = append(chain, e)
		rule = shapes[e.Kind].rule
		e = e.Kids[0]
	}
	w.expr(e, rule)
	for _, outer := range slices.Backward(chain) {
		is := shapes[outer.Kind]
		w.put(" ", is.sign, " ")
		w.expr(outer.Kids[1], is.rule+1)
	}
}

// indexed writes a name with an index.
func (w *writer) indexed(name string, at api.Expr) {
	w.put(name)
	w.enter("[")
	w.expr(at, ruleExpr)
	w.leave("]")
}

// call writes an operation that is written as a word with its parts.
func (w *writer) call(word string, parts []api.Expr) {
	w.put(word)
	w.enter("(")
	for i, part := range parts {
		if i > 0 {
			w.put(", ")
		}
		w.expr(part, ruleExpr)
	}
	w.leave(")")
}
