package pair

import (
	"fmt"
	"slices"
	"testing"

	"cadence/api"
	"cadence/mem"
	"cadence/simp"
)

// The chapter's words read once more, in the plainest form: all that a way keeps is copied where it parts, and what comes next is one list.

// plain: a way, with a maker of its own.
type plain struct {
	f       api.Flat
	m       *simp.Maker
	left    []api.Ins        // what comes next
	temps   [3][]int         // of the copies 1 and 2
	arrays  [3]map[int][]int // likewise, cells by the declarations' numbers
	sizes   map[int]int      // of arrays
	assumed []int
	events  int
	waits   Ask
	// What the chapter does not keep: which instructions were done, with empty parts, and which parts were gone into; the truths of the Differs.
	gone    []api.Ins
	parts   []bool
	differs []int
}

// sure: a term that no maker refuses.
func sure(t int, e api.Errno) int {
	if e != api.OK {
		panic(e)
	}
	return t
}

func newPlain(f api.Flat) *plain {
	p := &plain{f: f, m: simp.New(), left: f.Code, sizes: map[int]int{}}
	for c := 1; c <= 2; c++ {
		p.arrays[c] = map[int][]int{}
		at := 0
		for i, d := range f.Decls {
			var words []int
			for n := range max(d.Size, 1) {
				switch d.Kind {
				case api.DPublic, api.DSecret:
					name := []string{"", "x", "y"}[c]
					if d.Kind == api.DPublic {
						name = "p"
					}
					words = append(words, sure(p.m.Var(fmt.Sprint(name, at), f.Width)))
					at++
				case api.DConst:
					words = append(words, p.number(d.Values[n]))
				default:
					words = append(words, p.number(0))
				}
			}
			if d.Size > 0 {
				p.arrays[c][i], p.sizes[i] = words, d.Size
			} else {
				p.temps[c] = append(p.temps[c], words...)
			}
		}
		for len(p.temps[c]) < f.Temps {
			p.temps[c] = append(p.temps[c], p.number(0))
		}
	}
	return p
}

func (p *plain) number(x uint64) int { return sure(p.m.Const(p.f.Width, x)) }

func (p *plain) not(t int) int { return sure(p.m.Un(api.OpNot, t)) }

func (p *plain) bin(op, a, b int) int { return sure(p.m.Bin(op, a, b)) }

// dif: the chapter's Unlike.
func (p *plain) dif(a, b int) int { return p.not(p.bin(api.OpEq, a, b)) }

func (p *plain) op(t int) int {
	n, _ := p.m.Store().Node(t)
	return n.Op
}

// arg: an argument in a copy.
func (p *plain) arg(copy int, a api.Arg) int {
	if a.Temp == -1 {
		return p.number(a.Num)
	}
	return p.temps[copy][a.Temp]
}

// set: the chapter's set, of the argument A in a copy.
func (p *plain) set(copy int, x api.Ins) int { return p.dif(p.arg(copy, x.A), p.number(0)) }

// line: of the index A in a copy; 0, if all lines are one.
func (p *plain) line(copy int, x api.Ins) int {
	k, l := 0, 0
	for 1<<k < p.sizes[x.Array] {
		k++
	}
	for 1<<l < p.f.Line {
		l++
	}
	if k = min(k, p.f.Width); l < k {
		return sure(p.m.Slice(p.arg(copy, x.A), l, k-l))
	}
	return 0
}

// must: the truth that must never be; 0, if nothing must be shown.
func (p *plain) must(x api.Ins) int {
	a1, a2, b1, b2 := p.arg(1, x.A), p.arg(2, x.A), p.arg(1, x.B), p.arg(2, x.B)
	switch x.Op {
	case api.EDiv, api.ERem:
		if a1 != a2 || b1 != b2 {
			return p.bin(api.OpOr, p.dif(a1, a2), p.dif(b1, b2))
		}
	case api.FLoad, api.FStore:
		if l, m := p.line(1, x), p.line(2, x); l != m {
			return p.dif(l, m)
		}
	case api.FIf:
		if t, u := p.set(1, x), p.set(2, x); t != u {
			return p.bin(api.OpXor, t, u)
		}
	}
	return 0
}

func (p *plain) assume(t int) {
	if p.op(t) != api.OpTrue && !slices.Contains(p.assumed, t) {
		p.assumed = append(p.assumed, t)
	}
}

// becomes: what an operation's Dst is, in a copy.
func (p *plain) becomes(copy int, x api.Ins) int {
	a, b, c := p.arg(copy, x.A), p.arg(copy, x.B), p.arg(copy, x.C)
	one, zero := p.number(1), p.number(0)
	word := func(t int) int { return sure(p.m.Ite(t, one, zero)) }
	switch x.Op {
	case api.FCopy:
		return a
	case api.ECom:
		return sure(p.m.Un(api.OpCom, a))
	case api.ENeg:
		return sure(p.m.Un(api.OpNeg, a))
	case api.EEq:
		return word(p.bin(api.OpEq, a, b))
	case api.ENe:
		return word(p.not(p.bin(api.OpEq, a, b)))
	case api.ELt:
		return word(p.bin(api.OpUlt, a, b))
	case api.ELe:
		return word(p.bin(api.OpUle, a, b))
	case api.EGt:
		return word(p.bin(api.OpUlt, b, a))
	case api.EGe:
		return word(p.bin(api.OpUle, b, a))
	case api.ESlt:
		return word(p.bin(api.OpSlt, a, b))
	case api.ESel:
		return sure(p.m.Ite(p.set(copy, x), b, c))
	case api.FLoad:
		return sure(p.array(copy, x.Array).Load(a))
	}
	return p.bin(map[int]int{
		api.EMul: api.OpMul, api.EDiv: api.OpDiv, api.ERem: api.OpRem, api.EAdd: api.OpAdd, api.ESub: api.OpSub,
		api.EShl: api.OpShl, api.EShr: api.OpShr, api.ERol: api.OpRol, api.ERor: api.OpRor,
		api.EAnd: api.OpBand, api.EXor: api.OpBxor, api.EOr: api.OpBor, api.ESar: api.OpSar,
	}[x.Op], a, b)
}

func (p *plain) array(copy, n int) *mem.Array {
	a, e := mem.New(p.m, p.arrays[copy][n]...)
	if e != api.OK {
		panic(e)
	}
	return a
}

// do: what an instruction does.
func (p *plain) do(x api.Ins) {
	bare := x
	bare.Then, bare.Else = nil, nil
	p.gone = append(p.gone, bare)
	switch x.Op {
	case api.EDiv, api.ERem, api.FLoad, api.FStore, api.FRelease, api.FIf:
		p.events++
	}
	switch x.Op {
	case api.FIf:
		t, u := p.set(1, x), p.set(2, x)
		switch {
		case p.op(t) == api.OpTrue:
			p.into(x, true)
		case p.op(t) == api.OpFalse:
			p.into(x, false)
		case p.op(u) == api.OpTrue:
			p.into(x, true)
		case p.op(u) == api.OpFalse:
			p.into(x, false)
		default:
			p.waits = Ask{Kind: Branch, Truth: t}
		}
		return
	case api.FRelease:
		p.assume(p.bin(api.OpEq, p.arg(1, x.A), p.arg(2, x.A)))
	case api.FStore:
		for c := 1; c <= 2; c++ {
			a := p.array(c, x.Array)
			if e := a.Store(p.arg(c, x.A), p.arg(c, x.B)); e != api.OK {
				panic(e)
			}
			p.arrays[c][x.Array] = a.Cells()
		}
	default:
		for c := 1; c <= 2; c++ {
			p.temps[c][x.Dst] = p.becomes(c, x)
		}
	}
	p.left = p.left[1:]
}

// into: a part of the if that comes next.
func (p *plain) into(x api.Ins, then bool) {
	part := x.Else
	if then {
		part = x.Then
	}
	p.parts = append(p.parts, then)
	p.left = slices.Concat(part, p.left[1:])
}

func (p *plain) next(room int64) Ask {
	if p.waits.Kind > 0 {
		return p.waits
	}
	var weight int64
	for len(p.left) > 0 {
		x := p.left[0]
		more := int64(2)
		if x.Op == api.FLoad || x.Op == api.FStore {
			more *= int64(p.sizes[x.Array])
		}
		if room >= 0 && weight+more > room {
			return Ask{Room, 0, weight}
		}
		weight += more
		if truth := p.must(x); truth != 0 {
			p.waits = Ask{Differ, truth, 0}
			p.differs = append(p.differs, truth)
			return Ask{Differ, truth, weight}
		}
		p.do(x)
		if p.waits.Kind == Branch {
			return Ask{Branch, p.waits.Truth, weight}
		}
	}
	return Ask{End, 0, weight}
}

func (p *plain) agree() {
	p.waits = Ask{}
	p.do(p.left[0])
}

// fork: both ways, each with a copy of all.
func (p *plain) fork() (*plain, *plain) {
	x := p.left[0]
	t, u := p.set(1, x), p.set(2, x)
	side := func(then bool, first, second int) *plain {
		q := *p
		q.waits = Ask{}
		q.assumed, q.gone, q.parts, q.differs = slices.Clone(p.assumed), slices.Clone(p.gone), slices.Clone(p.parts), slices.Clone(p.differs)
		for c := 1; c <= 2; c++ {
			q.temps[c] = slices.Clone(p.temps[c])
			q.arrays[c] = map[int][]int{}
			for i, cells := range p.arrays[c] {
				q.arrays[c][i] = slices.Clone(cells)
			}
		}
		q.into(x, then)
		q.assume(first)
		q.assume(second)
		return &q
	}
	return side(true, t, u), side(false, p.not(t), p.not(u))
}

// all: the assumptions, and all words and cells, of the first copy, then of the second.
func (p *plain) all() []int {
	list := slices.Clone(p.assumed)
	for c := 1; c <= 2; c++ {
		list = append(list, p.temps[c]...)
		for i := range p.f.Decls {
			list = append(list, p.arrays[c][i]...)
		}
	}
	return list
}

// all: the same of a way.
func (g *going) all() []int {
	g.t.Helper()
	list := slices.Clone(g.w.Assumed())
	for c := 1; c <= 2; c++ {
		for i := range g.f.Temps {
			list = append(list, g.word(c, i))
		}
		for i, d := range g.f.Decls {
			if d.Size > 0 {
				list = append(list, g.cells(c, i)...)
			}
		}
	}
	return list
}

// sameLooks: all that can be looked at of a way is what the plain one has.
func sameLooks(t testing.TB, g *going, p *plain) {
	t.Helper()
	if g.w.Events() != p.events || len(g.w.Assumed()) != len(p.assumed) {
		t.Fatalf("%d events, %d assumptions, not %d, %d, of %s", g.w.Events(), len(g.w.Assumed()), p.events, len(p.assumed), shown(g.f))
	}
	got, want := g.all(), p.all()
	for i := 0; i < len(got) && i < len(want); i += 64 { // a piece at a time, for a text that can be read
		end := min(i+64, len(got))
		a, e := g.w.Store().Dump(got[i:end]...)
		b, bad := p.m.Store().Dump(want[i:end]...)
		if a != b || e != api.OK || bad != api.OK {
			t.Fatalf("terms from %d on: %d %d, of %s:\n%s\nnot\n%s", i, e, bad, shown(g.f), a, b)
		}
	}
	is(t, "how many terms", len(got), len(want))
}

// sameAsk: what a way asks is what the plain one asks.
func sameAsk(t testing.TB, g *going, got Ask, p *plain, want Ask) {
	t.Helper()
	if got.Kind != want.Kind || got.Weight != want.Weight || (got.Truth == 0) != (want.Truth == 0) {
		t.Fatalf("%+v, not %+v, of %s", got, want, shown(g.f))
	}
	if got.Truth == 0 {
		return
	}
	a, e := g.w.Store().Dump(got.Truth)
	b, bad := p.m.Store().Dump(want.Truth)
	if a != b || e != api.OK || bad != api.OK {
		t.Fatalf("the truth %d %d, of %s:\n%s\nnot\n%s", e, bad, shown(g.f), a, b)
	}
}
