package flat

import "cadence/api"

// maker makes the code of a right program. That it is right is leant on throughout: names are known and of the kind that is asked for, nothing is too deep for calls within one another, and unrolled it is not too great.
type maker struct {
	width  int
	stands map[string]api.Arg // what names stand for: those of singles, and of the loops that are being done; no two of them have one name
	arrays map[string]int     // the numbers of the declarations that are arrays
	temps  int                // how many there are so far
	code   []api.Ins
}

func newMaker(p *api.Program) *maker {
	m := &maker{width: p.Width, stands: map[string]api.Arg{}, arrays: map[string]int{}}
	for i := range p.Decls {
		if d := &p.Decls[i]; d.Size == 0 {
			m.stands[d.Name] = m.newTemp()
		} else {
			m.arrays[d.Name] = i
		}
	}
	return m
}

// newTemp: the next one.
func (m *maker) newTemp() api.Arg {
	m.temps++
	return temp(m.temps - 1)
}

func (m *maker) add(x api.Ins) { m.code = append(m.code, x) }

// block: the code of statements, and how many temps there are behind it. The receiver is a copy, so that the code stands apart from what was made ahead of it.
func (m maker) block(list []api.Stmt) ([]api.Ins, int) {
	m.code = nil
	m.stmts(list)
	return m.code, m.temps
}

func (m *maker) stmts(list []api.Stmt) {
	for i := range list {
		m.stmt(&list[i])
	}
}

func (m *maker) stmt(s *api.Stmt) {
	switch s.Kind {
	case api.SSet:
		m.add(api.Ins{Op: api.FCopy, A: m.expr(&s.E), Dst: m.stands[s.Name].Temp})
	case api.SStore:
		at, word := m.expr(&s.At), m.expr(&s.E)
		m.add(api.Ins{Op: api.FStore, A: at, B: word, Array: m.arrays[s.Name]})
	case api.SIf:
		m.branch(s)
	case api.SFor:
		m.loop(s)
	case api.SRelease:
		m.add(api.Ins{Op: api.FRelease, A: m.stands[s.Name]})
	}
}

func (m *maker) branch(s *api.Stmt) {
	x := api.Ins{Op: api.FIf, A: m.expr(&s.E)}
	x.Then, m.temps = m.block(s.Then)
	x.Else, m.temps = m.block(s.Else)
	m.add(x)
}

func (m *maker) loop(s *api.Stmt) {
	for i := s.Lo; i < s.Hi; i++ {
		m.stands[s.Name] = number(i)
		m.stmts(s.Then)
	}
	delete(m.stands, s.Name)
}

// expr: the argument that an expression becomes, behind the instructions that it needs.
func (m *maker) expr(e *api.Expr) api.Arg {
	switch e.Kind {
	case api.ENum:
		return number(e.Num)
	case api.EName:
		return m.stands[e.Name]
	}
	var kids [3]api.Arg // no kind has more parts
	for i := range e.Kids {
		kids[i] = m.expr(&e.Kids[i])
	}
	x := api.Ins{Op: e.Kind, A: kids[0], B: kids[1], C: kids[2]}
	if e.Kind == api.ELoad {
		x.Op, x.Array = api.FLoad, m.arrays[e.Name]
	}
	if word, is := constant(m.width, &x); is {
		return number(word)
	}
	to := m.newTemp()
	x.Dst = to.Temp
	m.add(x)
	return to
}
