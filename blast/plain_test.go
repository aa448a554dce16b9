package blast

import (
	"fmt"

	"cadence/aig"
	"cadence/api"
	"cadence/term"
)

// plain is a blaster as the chapter tells it, with gates as chapter 10 tells them: it counts nodes on from a graph's, but has no graph.
type plain struct {
	s       *term.Store
	nodes   int
	gates   map[api.Gate]uint32
	ins     int      // inputs of the graph
	made    []string // as look tells them
	vectors map[int][]uint32
	inputs  []Input
}

// newPlain: with the gates that the graph has by now. (A graph that is nearly full must have none: it is not gone through.)
func newPlain(s *term.Store, g *aig.Graph) *plain {
	p := &plain{s: s, nodes: g.Nodes(), gates: map[api.Gate]uint32{}, ins: g.Inputs(), vectors: map[int][]uint32{}}
	if g.Nodes() < 1<<20 {
		for n := range g.Nodes() {
			if kind, gate, _ := g.Node(n); kind == 2 {
				p.gates[gate] = uint32(2 * n)
			}
		}
	}
	return p
}

// noRoom: what a call of the graph that has no room for all of its gates gives up with.
type noRoom struct{}

// whole: all nodes that a call of the graph makes, or none.
func (p *plain) whole(call func() uint32) uint32 {
	before, made := p.nodes, len(p.made)
	defer func() {
		if x := recover(); x != nil {
			for gate, l := range p.gates {
				if int(l/2) >= before {
					delete(p.gates, gate)
				}
			}
			p.nodes, p.made = before, p.made[:made]
			panic(x)
		}
	}()
	return call()
}

func (p *plain) next(what string) uint32 {
	if p.nodes == api.MaxNodes {
		panic(noRoom{})
	}
	p.made = append(p.made, what)
	p.nodes++
	return uint32(2 * (p.nodes - 1))
}

func (p *plain) input() uint32 {
	l := p.next(fmt.Sprintf("i%d", p.ins))
	p.ins++
	return l
}

func (p *plain) gate(a, b uint32) uint32 {
	if a == 0 || b == 0 || a == b^1 {
		return 0
	}
	if a == 1 || a == b {
		return b
	}
	if b == 1 {
		return a
	}
	if l, there := p.gates[api.Gate{A: a, B: b}]; there {
		return l
	}
	l := p.next(fmt.Sprintf("%d*%d", a, b))
	p.gates[api.Gate{A: a, B: b}] = l
	return l
}

func (p *plain) and(a, b uint32) uint32 {
	return p.whole(func() uint32 { return p.gate(a, b) })
}

func (p *plain) or(a, b uint32) uint32 {
	return p.whole(func() uint32 { return p.gate(a^1, b^1) ^ 1 })
}

func (p *plain) xor(a, b uint32) uint32 {
	return p.whole(func() uint32 {
		both := p.gate(a, b)
		none := p.gate(a^1, b^1)
		return p.gate(both^1, none^1)
	})
}

func (p *plain) mux(c, a, b uint32) uint32 {
	if a == b {
		return a
	}
	return p.whole(func() uint32 {
		first := p.gate(c, a)
		second := p.gate(c^1, b)
		return p.gate(first^1, second^1) ^ 1
	})
}

// bits is Bits, with all terms of Order one behind the other.
func (p *plain) bits(t int) (l []uint32, e api.Errno) {
	order, e := p.s.Order(t)
	if e != api.OK {
		return nil, api.ErrTerm
	}
	defer func() {
		if x := recover(); x != nil {
			if x != (noRoom{}) {
				panic(x)
			}
			l, e = nil, api.ErrSize
		}
	}()
	for _, o := range order {
		if p.vectors[o] == nil {
			p.vectors[o] = p.make(node(p.s, o))
		}
	}
	return p.vectors[t], api.OK
}

func (p *plain) make(n api.Node) []uint32 {
	x, y, z := p.vectors[n.A], p.vectors[n.B], p.vectors[n.C]
	var l []uint32
	switch n.Op {
	case api.OpTrue:
		return []uint32{1}
	case api.OpFalse:
		return []uint32{0}
	case api.OpConst:
		for i := range n.W {
			l = append(l, uint32(n.Num/(1<<i)%2))
		}
	case api.OpVar:
		for i := range max(1, n.W) {
			l = append(l, p.input())
			p.inputs = append(p.inputs, Input{n.Name, n.W, i})
		}
	case api.OpNot:
		return []uint32{x[0] ^ 1}
	case api.OpAnd:
		return []uint32{p.and(x[0], y[0])}
	case api.OpOr:
		return []uint32{p.or(x[0], y[0])}
	case api.OpXor:
		return []uint32{p.xor(x[0], y[0])}
	case api.OpEq:
		return []uint32{p.same(x, y)}
	case api.OpUlt:
		return []uint32{p.less(x, y)}
	case api.OpUle:
		return []uint32{p.less(y, x) ^ 1}
	case api.OpSlt:
		return []uint32{p.less(topTurned(x), topTurned(y))}
	case api.OpSle:
		return []uint32{p.less(topTurned(y), topTurned(x)) ^ 1}
	case api.OpIte:
		return p.pick(x[0], y, z)
	case api.OpCat:
		l = append(append(l, y...), x...)
	case api.OpSlice:
		for i := range n.W {
			l = append(l, x[int(n.Num)+i])
		}
	case api.OpZext, api.OpSext:
		l = append(l, x...)
		for len(l) < n.W {
			l = append(l, map[int]uint32{api.OpZext: 0, api.OpSext: x[len(x)-1]}[n.Op])
		}
	default:
		return p.word(n.Op, x, y)
	}
	return l
}

func (p *plain) word(op int, x, y []uint32) []uint32 {
	var l []uint32
	switch op {
	case api.OpCom:
		return turned(x)
	case api.OpNeg:
		return p.sum(make([]uint32, len(x)), turned(x), 1)
	case api.OpBand:
		for i := range x {
			l = append(l, p.and(x[i], y[i]))
		}
	case api.OpBor:
		for i := range x {
			l = append(l, p.or(x[i], y[i]))
		}
	case api.OpBxor:
		for i := range x {
			l = append(l, p.xor(x[i], y[i]))
		}
	case api.OpAdd:
		return p.sum(x, y, 0)
	case api.OpSub:
		return p.sum(x, turned(y), 1)
	case api.OpMul:
		return p.product(x, y)
	case api.OpDiv:
		l, _ = p.quotient(x, y)
	case api.OpRem:
		_, l = p.quotient(x, y)
	default:
		return p.shift(op, x, y)
	}
	return l
}

func turned(x []uint32) []uint32 {
	var l []uint32
	for i := range x {
		l = append(l, x[i]^1)
	}
	return l
}

func topTurned(x []uint32) []uint32 {
	l := append([]uint32{}, x...)
	l[len(l)-1] ^= 1
	return l
}

func (p *plain) sum(x, y []uint32, c uint32) []uint32 {
	var l []uint32
	for i := range x {
		q := p.xor(x[i], y[i])
		l = append(l, p.xor(q, c))
		left := p.and(x[i], y[i])
		right := p.and(c, q)
		c = p.or(left, right)
	}
	return l
}

func (p *plain) less(x, y []uint32) uint32 {
	l := uint32(0)
	for i := range x {
		other := p.xor(x[i], y[i])
		l = p.mux(other, y[i], l)
	}
	return l
}

func (p *plain) same(x, y []uint32) uint32 {
	e := uint32(1)
	for i := range x {
		other := p.xor(x[i], y[i])
		e = p.and(e, other^1)
	}
	return e
}

func (p *plain) pick(c uint32, x, y []uint32) []uint32 {
	var l []uint32
	for i := range x {
		l = append(l, p.mux(c, x[i], y[i]))
	}
	return l
}

func (p *plain) product(x, y []uint32) []uint32 {
	n := len(x)
	r := make([]uint32, n)
	for i := 0; i < n; i++ {
		q := make([]uint32, n)
		for j := i; j < n; j++ {
			q[j] = p.and(x[j-i], y[i])
		}
		r = p.sum(r, q, 0)
	}
	return r
}

func (p *plain) quotient(x, y []uint32) ([]uint32, []uint32) {
	n := len(x)
	q, r := make([]uint32, n), make([]uint32, n+1)
	z := make([]uint32, n+1)
	copy(z, y)
	for i := n - 1; i >= 0; i-- {
		for j := n; j > 0; j-- {
			r[j] = r[j-1]
		}
		r[0] = x[i]
		g := p.less(r, z) ^ 1
		d := p.sum(r, turned(z), 1)
		r = p.pick(g, d, r)
		q[i] = g
	}
	return q, r[:n]
}

func (p *plain) shift(op int, x, y []uint32) []uint32 {
	n := len(x)
	for k, m := 0, 1; m < n; k, m = k+1, 2*m {
		var moved []uint32
		for i := range n {
			from := map[int]int{api.OpShl: i - m, api.OpShr: i + m, api.OpSar: i + m, api.OpRol: (i + n - m) % n, api.OpRor: (i + m) % n}[op]
			switch {
			case 0 <= from && from < n:
				moved = append(moved, x[from])
			case op == api.OpSar:
				moved = append(moved, x[n-1])
			default:
				moved = append(moved, 0)
			}
		}
		x = p.pick(y[k], moved, x)
	}
	return x
}
