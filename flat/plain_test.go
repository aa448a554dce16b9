package flat

import (
	"fmt"
	"maps"
	"math/big"
	"strings"
	"testing"

	"cadence/api"
	"cadence/bits"
	"cadence/run"
	"cadence/wf"
)

// What stands here is a plain reading of the chapter: a loop is unrolled by putting its number into its statements, what is known or needed is copied whole, and what flat code does is what a program does that has a declaration for each temp.

// plainMaker writes the lines of a program's code.
type plainMaker struct {
	p     api.Program
	temps int
	lines []string
}

// plainMade: the text of the code that a right program should become, and how many temps it should have.
func plainMade(p api.Program) (string, int) {
	m := &plainMaker{p: p}
	for _, d := range p.Decls {
		if d.Size == 0 {
			m.temps++
		}
	}
	m.stmts(p.Body, "")
	return strings.Join(m.lines, ""), m.temps
}

// singleTemp: that of a declaration's name.
func (m *plainMaker) singleTemp(name string) string {
	at := 0
	for _, d := range m.p.Decls {
		if d.Name == name {
			return fmt.Sprint("t", at)
		}
		if d.Size == 0 {
			at++
		}
	}
	panic("no declaration " + name)
}

func (m *plainMaker) line(margin string, parts ...any) {
	m.lines = append(m.lines, margin+fmt.Sprint(parts...)+"\n")
}

func (m *plainMaker) stmts(list []api.Stmt, margin string) {
	for _, s := range list {
		switch s.Kind {
		case api.SSet:
			arg := m.expr(s.E, margin)
			m.line(margin, m.singleTemp(s.Name), " = copy ", arg)
		case api.SStore:
			at := m.expr(s.At, margin)
			arg := m.expr(s.E, margin)
			m.line(margin, s.Name, "[", at, "] = ", arg)
		case api.SRelease:
			m.line(margin, "release ", m.singleTemp(s.Name))
		case api.SIf:
			m.line(margin, "if ", m.expr(s.E, margin), " {")
			m.stmts(s.Then, margin+"  ")
			ahead := len(m.lines)
			m.line(margin, "} else {")
			m.stmts(s.Else, margin+"  ")
			if len(m.lines) == ahead+1 { // nothing came of Else, which may have had loops that are done no time
				m.lines = m.lines[:ahead]
			}
			m.line(margin, "}")
		case api.SFor:
			for i := s.Lo; i != s.Hi; i++ {
				m.stmts(putStmts(s.Then, s.Name, i), margin)
			}
		}
	}
}

// expr: what an argument looks like.
func (m *plainMaker) expr(e api.Expr, margin string) string {
	switch e.Kind {
	case api.ENum:
		return bits.Text(e.Num)
	case api.EName:
		return m.singleTemp(e.Name)
	}
	var kids []string
	numbers := true
	for _, kid := range e.Kids {
		kids = append(kids, m.expr(kid, margin))
		numbers = numbers && !strings.HasPrefix(kids[len(kids)-1], "t")
	}
	if numbers && e.Kind != api.EDiv && e.Kind != api.ERem && e.Kind != api.ELoad {
		var words []uint64
		for _, kid := range kids {
			word, _ := bits.Number(kid)
			words = append(words, word)
		}
		return bits.Text(plainWord(e.Kind, m.p.Width, words))
	}
	to := fmt.Sprint("t", m.temps)
	m.temps++
	if e.Kind == api.ELoad {
		m.line(margin, to, " = ", e.Name, "[", kids[0], "]")
	} else {
		m.line(margin, to, " = ", kindWords()[e.Kind-api.ECom], " ", strings.Join(kids, " "))
	}
	return to
}

// putStmts: statements with a number in the place of a name.
func putStmts(list []api.Stmt, name string, n uint64) []api.Stmt {
	var out []api.Stmt
	for _, s := range list {
		s.At, s.E = putExpr(s.At, name, n), putExpr(s.E, name, n)
		s.Then, s.Else = putStmts(s.Then, name, n), putStmts(s.Else, name, n)
		out = append(out, s)
	}
	return out
}

func putExpr(e api.Expr, name string, n uint64) api.Expr {
	if e.Kind == api.EName && e.Name == name {
		return api.Expr{Kind: api.ENum, Num: n}
	}
	var kids []api.Expr
	for _, k := range e.Kids {
		kids = append(kids, putExpr(k, name, n))
	}
	e.Kids = kids
	return e
}

// plainWord: what a kind makes of words, as a run of a program says that sets a word to it.
func plainWord(kind, width int, words []uint64) uint64 {
	e := api.Expr{Kind: kind}
	for _, word := range words {
		e.Kids = append(e.Kids, api.Expr{Kind: api.ENum, Num: word})
	}
	a, bad := run.Run(api.Program{Name: "p", Width: width, Line: 1, Decls: []api.Decl{{Kind: api.DOut, Name: "x"}}, Body: []api.Stmt{{Kind: api.SSet, Name: "x", E: e}}}, nil)
	if bad != api.OK {
		panic(bad)
	}
	return a.State[0][0]
}

// plainFields: which of its fields an operation has: Dst, how many arguments, Array, Then and Else; false, if it is none.
func plainFields(op int) (dst bool, args int, array, parts, is bool) {
	switch {
	case op == api.ECom || op == api.ENeg || op == api.FCopy:
		return true, 1, false, false, true
	case op >= api.EMul && op <= api.ESlt:
		return true, 2, false, false, true
	case op == api.ESel:
		return true, 3, false, false, true
	case op == api.FLoad:
		return true, 1, true, false, true
	case op == api.FStore:
		return false, 2, true, false, true
	case op == api.FIf:
		return false, 1, false, true, true
	case op == api.FRelease:
		return false, 1, false, false, true
	}
	return false, 0, false, false, false
}

// plainArgs: the arguments of an instruction that may be.
func plainArgs(x *api.Ins) []*api.Arg {
	_, n, _, _, _ := plainFields(x.Op)
	return []*api.Arg{&x.A, &x.B, &x.C}[:n]
}

// plainMay: what May should answer of code that is no greater than it may be.
func plainMay(f api.Flat) bool {
	if wf.Check(api.Program{Name: "p", Width: f.Width, Line: f.Line, Decls: f.Decls}) != api.OK {
		return false
	}
	singles := 0
	for _, d := range f.Decls {
		if d.Size == 0 {
			singles++
		}
	}
	return f.Temps >= singles && f.Temps <= 1048576 && plainMayList(f, f.Code, 0)
}

func plainMayList(f api.Flat, list []api.Ins, within int) bool {
	for _, x := range list {
		dst, args, array, parts, is := plainFields(x.Op)
		if !is || within > 64 {
			return false
		}
		fits := dst && x.Dst >= 0 && x.Dst < f.Temps || !dst && x.Dst == 0
		for i, a := range []api.Arg{x.A, x.B, x.C} {
			temp := a.Temp >= 0 && a.Temp < f.Temps && a.Num == 0
			number := a.Temp == -1 && new(big.Int).SetUint64(a.Num).Cmp(new(big.Int).Lsh(big.NewInt(1), uint(f.Width))) < 0
			none := a.Temp == 0 && a.Num == 0
			fits = fits && (i < args && (temp || number) || i >= args && none)
		}
		if array {
			fits = fits && x.Array >= 0 && x.Array < len(f.Decls) && f.Decls[x.Array].Size != 0 && (x.Op != api.FStore || f.Decls[x.Array].Kind != api.DConst)
		} else {
			fits = fits && x.Array == 0
		}
		if !fits || !parts && (len(x.Then) > 0 || len(x.Else) > 0) || !plainMayList(f, x.Then, within+1) || !plainMayList(f, x.Else, within+1) {
			return false
		}
	}
	return true
}

// plainSize: how many instructions there are.
func plainSize(list []api.Ins) int {
	n := 0
	for _, x := range list {
		n += 1 + plainSize(x.Then) + plainSize(x.Else)
	}
	return n
}

// plainDrop: what Drop should answer.
func plainDrop(f api.Flat) api.Flat {
	end := map[int]bool{}
	at := 0
	for _, d := range f.Decls {
		if d.Size != 0 {
			continue
		}
		if d.Kind == api.DOut {
			end[at] = true
		}
		at++
	}
	f.Code, _ = plainKept(f.Code, end)
	return f
}

// plainKept: what stays of instructions, and what is needed ahead of them, by what is needed behind.
func plainKept(list []api.Ins, behind map[int]bool) ([]api.Ins, map[int]bool) {
	if len(list) == 0 {
		return nil, behind
	}
	x := list[0]
	rest, needed := plainKept(list[1:], behind)
	dst, _, _, _, _ := plainFields(x.Op)
	mayDie := x.Op >= api.ECom && x.Op <= api.ESel && x.Op != api.EDiv && x.Op != api.ERem || x.Op == api.FCopy
	if mayDie && !needed[x.Dst] {
		return rest, needed
	}
	ahead := maps.Clone(needed)
	if dst {
		delete(ahead, x.Dst)
	}
	if x.Op == api.FIf {
		var then, otherwise map[int]bool
		x.Then, then = plainKept(x.Then, needed)
		x.Else, otherwise = plainKept(x.Else, needed)
		ahead = map[int]bool{}
		maps.Copy(ahead, then)
		maps.Copy(ahead, otherwise)
	}
	for _, a := range plainArgs(&x) {
		if a.Temp >= 0 {
			ahead[a.Temp] = true
		}
	}
	return append([]api.Ins{x}, rest...), ahead
}

// plainFold: what Fold should answer.
func plainFold(f api.Flat) api.Flat {
	known := map[int]uint64{}
	for i := range f.Temps {
		known[i] = 0
	}
	at := 0
	for _, d := range f.Decls {
		if d.Size != 0 {
			continue
		}
		if d.Kind != api.DVar && d.Kind != api.DOut {
			delete(known, at)
		}
		at++
	}
	f.Code, _ = plainFolded(f, f.Code, known)
	return f
}

// plainFolded: what instructions become, and what is known behind them, by what is known ahead.
func plainFolded(f api.Flat, list []api.Ins, ahead map[int]uint64) ([]api.Ins, map[int]uint64) {
	known := maps.Clone(ahead)
	var out []api.Ins
	for _, x := range list {
		numbers := true
		var words []uint64
		for _, a := range plainArgs(&x) {
			if n, is := known[a.Temp]; is && a.Temp >= 0 {
				*a = api.Arg{Temp: -1, Num: n}
			}
			numbers = numbers && a.Temp == -1
			words = append(words, a.Num)
		}
		if numbers && x.Op >= api.ECom && x.Op <= api.ESel && x.Op != api.EDiv && x.Op != api.ERem {
			x = api.Ins{Op: api.FCopy, Dst: x.Dst, A: api.Arg{Temp: -1, Num: plainWord(x.Op, f.Width, words)}}
		}
		if dst, _, _, _, _ := plainFields(x.Op); dst {
			delete(known, x.Dst)
			if x.Op == api.FCopy && x.A.Temp == -1 {
				known[x.Dst] = x.A.Num
			}
		}
		if x.Op == api.FIf {
			var then, otherwise map[int]uint64
			x.Then, then = plainFolded(f, x.Then, known)
			x.Else, otherwise = plainFolded(f, x.Else, known)
			switch {
			case x.A.Temp == -1 && x.A.Num != 0:
				known = then
			case x.A.Temp == -1:
				known = otherwise
			default:
				known = map[int]uint64{}
				for temp, n := range then {
					if m, is := otherwise[temp]; is && n == m {
						known[temp] = n
					}
				}
			}
		}
		out = append(out, x)
	}
	return out, known
}

// asProgram: a program that does what flat code does: behind the declarations stand one for each other temp, and one for numbers that are released.
func asProgram(f api.Flat) api.Program {
	p := api.Program{Name: "p", Width: f.Width, Line: f.Line}
	var names []string
	for _, d := range f.Decls {
		p.Decls = append(p.Decls, d)
		if d.Size == 0 {
			names = append(names, d.Name)
		}
	}
	for len(names) < f.Temps {
		name := fmt.Sprint("temp_", len(names))
		names = append(names, name)
		p.Decls = append(p.Decls, api.Decl{Kind: api.DVar, Name: name})
	}
	p.Decls = append(p.Decls, api.Decl{Kind: api.DVar, Name: "released_"})
	p.Body = asStmts(f, names, f.Code)
	return p
}

func asStmts(f api.Flat, names []string, list []api.Ins) []api.Stmt {
	var out []api.Stmt
	expr := func(a api.Arg) api.Expr {
		if a.Temp == -1 {
			return api.Expr{Kind: api.ENum, Num: a.Num}
		}
		return api.Expr{Kind: api.EName, Name: names[a.Temp]}
	}
	for _, x := range list {
		switch x.Op {
		case api.FStore:
			out = append(out, api.Stmt{Kind: api.SStore, Name: f.Decls[x.Array].Name, At: expr(x.A), E: expr(x.B)})
		case api.FIf:
			out = append(out, api.Stmt{Kind: api.SIf, E: expr(x.A), Then: asStmts(f, names, x.Then), Else: asStmts(f, names, x.Else)})
		case api.FRelease:
			out = append(out, api.Stmt{Kind: api.SSet, Name: "released_", E: expr(x.A)}, api.Stmt{Kind: api.SRelease, Name: "released_"})
		case api.FCopy:
			out = append(out, api.Stmt{Kind: api.SSet, Name: names[x.Dst], E: expr(x.A)})
		case api.FLoad:
			out = append(out, api.Stmt{Kind: api.SSet, Name: names[x.Dst], E: api.Expr{Kind: api.ELoad, Name: f.Decls[x.Array].Name, Kids: []api.Expr{expr(x.A)}}})
		default:
			e := api.Expr{Kind: x.Op}
			for _, a := range plainArgs(&x) {
				e.Kids = append(e.Kids, expr(*a))
			}
			out = append(out, api.Stmt{Kind: api.SSet, Name: names[x.Dst], E: e})
		}
	}
	return out
}

// plainRun: what Run should answer of flat code with few temps.
func plainRun(t testing.TB, f api.Flat, in []uint64) api.Ended {
	t.Helper()
	a, e := run.Run(asProgram(f), in)
	if e != api.OK {
		t.Fatalf("no program: %d, of %s", e, shownFlat(f))
	}
	n := 0
	for _, d := range f.Decls {
		if d.Kind != api.DConst {
			n++
		}
	}
	a.State = a.State[:n]
	return a
}
