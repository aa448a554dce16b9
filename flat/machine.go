package flat

import "cadence/api"

// machine does flat code that may be.
type machine struct {
	flat   *api.Flat
	temps  []uint64
	arrays [][]uint64 // by the numbers of the declarations; of a single its one word, which is not looked at till the end
	trace  []api.Event
}

// newMachine: with the words that there are at first: of each declaration but tables, in order. They become the machine's.
func newMachine(f *api.Flat, first [][]uint64) *machine {
	m := &machine{flat: f, temps: make([]uint64, f.Temps), arrays: make([][]uint64, len(f.Decls))}
	for i := range f.Decls {
		if d := &f.Decls[i]; d.Kind == api.DConst {
			m.arrays[i] = d.Values // nothing is ever written to a table
		} else {
			m.arrays[i], first = first[0], first[1:]
		}
	}
	for i, decl := range singles(f.Decls) {
		m.temps[i] = m.arrays[decl][0]
	}
	return m
}

// state: the last words of each declaration but tables, in order.
func (m *machine) state() [][]uint64 {
	for i, decl := range singles(m.flat.Decls) {
		m.arrays[decl][0] = m.temps[i]
	}
	var state [][]uint64
	for i := range m.flat.Decls {
		if m.flat.Decls[i].Kind != api.DConst {
			state = append(state, m.arrays[i])
		}
	}
	return state
}

func (m *machine) see(kind int, a, b uint64) {
	m.trace = append(m.trace, api.Event{Kind: kind, A: a, B: b})
}

func (m *machine) block(list []api.Ins) {
	for i := range list {
		m.ins(&list[i])
	}
}

func (m *machine) ins(x *api.Ins) {
	of := m.words(x)
	switch x.Op {
	case api.FCopy:
		m.temps[x.Dst] = of[0]
	case api.FLoad:
		m.temps[x.Dst] = *m.touched(api.EvLoad, x.Array, of[0])
	case api.FStore:
		*m.touched(api.EvStore, x.Array, of[0]) = of[1]
	case api.FIf:
		m.branch(x, of[0])
	case api.FRelease:
		m.see(api.EvRelease, of[0], 0)
	default:
		if isDivision(x.Op) {
			m.see(api.EvDivide, of[0], of[1])
		}
		m.temps[x.Dst] = made(x.Op, m.flat.Width, of)
	}
}

// words: those of the arguments that an instruction has.
func (m *machine) words(x *api.Ins) [3]uint64 {
	var of [3]uint64
	for i, a := range args(x) {
		if isNumber(*a) {
			of[i] = a.Num
		} else {
			of[i] = m.temps[a.Temp]
		}
	}
	return of
}

// touched: the word of an array at an index, which an onlooker sees as an event of that kind.
func (m *machine) touched(kind, array int, index uint64) *uint64 {
	at := index % uint64(len(m.arrays[array]))
	m.see(kind, uint64(array), at/uint64(m.flat.Line))
	return &m.arrays[array][at]
}

func (m *machine) branch(x *api.Ins, word uint64) {
	taken := truth(word != 0)
	m.see(api.EvBranch, taken, 0)
	if taken == 1 {
		m.block(x.Then)
	} else {
		m.block(x.Else)
	}
}
