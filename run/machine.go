package run

import (
	"cadence/api"
	"cadence/bits"
)

// machine does a right program. That it is right is leant on throughout: names are known and of the kind that is asked for, nothing is too deep for calls within one another, and loops come to an end soon.
type machine struct {
	program  *api.Program
	onlooker onlooker
	held     map[string]holding // by names: of the declarations, and of the loops that are being done; no two of them have one name
}

// holding: the words of a name; of a declaration its number, too.
type holding struct {
	number uint64
	words  []uint64
}

// ran: a machine that has done a right program, with as many inputs as it takes.
func ran(p *api.Program, in []uint64, o onlooker) *machine {
	m := begun(p, in, o)
	m.stmts(p.Body)
	return m
}

// begun: a machine with the words that there are at first.
func begun(p *api.Program, in []uint64, o onlooker) *machine {
	m := &machine{program: p, onlooker: o, held: make(map[string]holding, len(p.Decls))}
	for i := range p.Decls {
		d := &p.Decls[i]
		words := d.Values // of a table, to which nothing is ever written
		if d.Kind != api.DConst {
			words = make([]uint64, wordsOf(d))
		}
		if isInput(d) {
			m.fill(words, in)
			in = in[len(words):]
		}
		m.held[d.Name] = holding{number: uint64(i), words: words}
	}
	return m
}

// fill lays the first inputs into words.
func (m *machine) fill(words, in []uint64) {
	for i := range words {
		words[i] = bits.Trim(m.program.Width, in[i])
	}
}

// state: the words of each declaration but tables, in order.
func (m *machine) state() [][]uint64 {
	var state [][]uint64
	for i := range m.program.Decls {
		if d := &m.program.Decls[i]; d.Kind != api.DConst {
			state = append(state, m.held[d.Name].words)
		}
	}
	return state
}

// single: the word of a name that has just one.
func (m *machine) single(name string) *uint64 { return &m.held[name].words[0] }

// touched: the word of an array at an index, which an onlooker sees as an event of that kind.
func (m *machine) touched(kind int, name string, index uint64) *uint64 {
	array := m.held[name]
	at := index % uint64(len(array.words))
	m.onlooker.see(api.Event{Kind: kind, A: array.number, B: at / uint64(m.program.Line)})
	return &array.words[at]
}

func (m *machine) stmts(list []api.Stmt) {
	for i := range list {
		m.stmt(&list[i])
	}
}

func (m *machine) stmt(s *api.Stmt) {
	switch s.Kind {
	case api.SSet:
		*m.single(s.Name) = m.expr(&s.E)
	case api.SStore:
		at, word := m.expr(&s.At), m.expr(&s.E)
		*m.touched(api.EvStore, s.Name, at) = word
	case api.SIf:
		m.branch(s)
	case api.SFor:
		m.loop(s)
	case api.SRelease:
		m.onlooker.see(api.Event{Kind: api.EvRelease, A: *m.single(s.Name)})
	}
}

func (m *machine) branch(s *api.Stmt) {
	taken := truth(m.expr(&s.E) != 0)
	m.onlooker.see(api.Event{Kind: api.EvBranch, A: taken})
	if taken == 1 {
		m.stmts(s.Then)
	} else {
		m.stmts(s.Else)
	}
}

func (m *machine) loop(s *api.Stmt) {
	number := make([]uint64, 1)
	m.held[s.Name] = holding{words: number}
	for i := s.Lo; i < s.Hi; i++ {
		number[0] = i
		m.stmts(s.Then)
	}
	delete(m.held, s.Name)
}
