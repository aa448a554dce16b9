package run

import (
	"math/big"

	"cadence/api"
)

// What stands here is a plain reading of the chapter: words are whole numbers modulo 2 to the width, and a loop is done by putting its number into its statements.

// plainRun: the words of each declaration, by its number, and what was seen so far.
type plainRun struct {
	p     api.Program
	words [][]uint64
	trace []api.Event
}

// plainly: what Run should answer.
func plainly(p api.Program, in []uint64) api.Ended {
	r := plainRun{p: p}
	next := 0
	for _, d := range p.Decls {
		n := d.Size
		if n == 0 {
			n = 1
		}
		list := make([]uint64, n)
		for i := range list {
			switch d.Kind {
			case api.DConst:
				list[i] = d.Values[i]
			case api.DPublic, api.DSecret:
				list[i] = r.cut(whole(in[next])).Uint64()
				next++
			}
		}
		r.words = append(r.words, list)
	}
	r.stmts(p.Body)
	var state [][]uint64
	for i, d := range p.Decls {
		if d.Kind != api.DConst {
			state = append(state, r.words[i])
		}
	}
	return api.Ended{State: state, Trace: r.trace}
}

func whole(x uint64) *big.Int { return new(big.Int).SetUint64(x) }

// power: 2 to the n-th.
func power(n uint) *big.Int { return new(big.Int).Lsh(big.NewInt(1), n) }

// cut: a whole number modulo 2 to the width.
func (r *plainRun) cut(x *big.Int) *big.Int {
	return new(big.Int).Mod(x, power(uint(r.p.Width)))
}

// numbered: the number of the declaration of a name.
func (r *plainRun) numbered(name string) int {
	for i, d := range r.p.Decls {
		if d.Name == name {
			return i
		}
	}
	panic("no declaration " + name)
}

func (r *plainRun) see(kind int, a, b uint64) {
	r.trace = append(r.trace, api.Event{Kind: kind, A: a, B: b})
}

// access: the number of an array, and where an index comes to in it; an event of that kind is seen.
func (r *plainRun) access(kind int, name string, index uint64) (int, uint64) {
	number := r.numbered(name)
	at := index % uint64(r.p.Decls[number].Size)
	r.see(kind, uint64(number), at/uint64(r.p.Line))
	return number, at
}

func (r *plainRun) stmts(list []api.Stmt) {
	for _, s := range list {
		switch s.Kind {
		case api.SSet:
			word := r.word(s.E)
			r.words[r.numbered(s.Name)][0] = word
		case api.SStore:
			index := r.word(s.At)
			word := r.word(s.E)
			number, at := r.access(api.EvStore, s.Name, index)
			r.words[number][at] = word
		case api.SIf:
			if r.word(s.E) != 0 {
				r.see(api.EvBranch, 1, 0)
				r.stmts(s.Then)
			} else {
				r.see(api.EvBranch, 0, 0)
				r.stmts(s.Else)
			}
		case api.SFor:
			for i := s.Lo; i != s.Hi; i++ {
				r.stmts(putStmts(s.Then, s.Name, i))
			}
		case api.SRelease:
			r.see(api.EvRelease, r.words[r.numbered(s.Name)][0], 0)
		}
	}
}

// putStmts: statements with a number in the place of a name.
func putStmts(list []api.Stmt, name string, n uint64) []api.Stmt {
	var out []api.Stmt
	for _, s := range list {
		s.At, s.E = putExpr(s.At, name, n), putExpr(s.E, name, n)
		s.Then, s.Else = putStmts(s.Then, name, n), putStmts(s.Else, name, n)
		out = append(out, s)
	}
	return out
}

func putExpr(e api.Expr, name string, n uint64) api.Expr {
	if e.Kind == api.EName && e.Name == name {
		return api.Expr{Kind: api.ENum, Num: n}
	}
	var kids []api.Expr
	for _, k := range e.Kids {
		kids = append(kids, putExpr(k, name, n))
	}
	e.Kids = kids
	return e
}

func (r *plainRun) word(e api.Expr) uint64 {
	var parts []uint64
	for _, k := range e.Kids {
		parts = append(parts, r.word(k))
	}
	switch e.Kind {
	case api.ENum:
		return e.Num
	case api.EName:
		return r.words[r.numbered(e.Name)][0]
	case api.ELoad:
		number, at := r.access(api.EvLoad, e.Name, parts[0])
		return r.words[number][at]
	case api.ECom:
		return r.cut(new(big.Int).Not(whole(parts[0]))).Uint64()
	case api.ENeg:
		return r.cut(new(big.Int).Neg(whole(parts[0]))).Uint64()
	case api.ESel:
		if parts[0] != 0 {
			return parts[1]
		}
		return parts[2]
	case api.EDiv, api.ERem:
		r.see(api.EvDivide, parts[0], parts[1])
	}
	if is, compares := r.compared(e.Kind, parts[0], parts[1]); compares {
		if is {
			return 1
		}
		return 0
	}
	return r.cut(r.joined(e.Kind, whole(parts[0]), whole(parts[1]))).Uint64()
}

// compared: does a compare hold, and is it one?
func (r *plainRun) compared(kind int, x, y uint64) (is, compares bool) {
	order := whole(x).Cmp(whole(y))
	switch kind {
	case api.EEq:
		return order == 0, true
	case api.ENe:
		return order != 0, true
	case api.ELt:
		return order == -1, true
	case api.ELe:
		return order != 1, true
	case api.EGt:
		return order == 1, true
	case api.EGe:
		return order != -1, true
	case api.ESlt:
		return r.signed(whole(x)).Cmp(r.signed(whole(y))) == -1, true
	}
	return false, false
}

// signed: the signed number of a word.
func (r *plainRun) signed(x *big.Int) *big.Int {
	if x.Cmp(power(uint(r.p.Width-1))) >= 0 {
		return new(big.Int).Sub(x, power(uint(r.p.Width)))
	}
	return x
}

// joined: what comes of two words, as a whole number that may be out of the width.
func (r *plainRun) joined(kind int, x, y *big.Int) *big.Int {
	z, w := new(big.Int), uint(r.p.Width)
	n := uint(new(big.Int).Mod(y, big.NewInt(int64(w))).Uint64())
	switch kind {
	case api.EMul:
		return z.Mul(x, y)
	case api.EAdd:
		return z.Add(x, y)
	case api.ESub:
		return z.Sub(x, y)
	case api.EAnd:
		return z.And(x, y)
	case api.EXor:
		return z.Xor(x, y)
	case api.EOr:
		return z.Or(x, y)
	case api.EDiv:
		if y.Sign() == 0 {
			return z.Sub(power(w), big.NewInt(1))
		}
		return z.Quo(x, y)
	case api.ERem:
		if y.Sign() == 0 {
			return x
		}
		return z.Rem(x, y)
	case api.EShl:
		return z.Mul(x, power(n))
	case api.EShr:
		return z.Quo(x, power(n))
	case api.ESar:
		return z.Rsh(r.signed(x), n)
	case api.ERol:
		return z.Add(z.Mul(x, power(n)), new(big.Int).Quo(x, power(w-n)))
	case api.ERor:
		return z.Add(z.Mul(x, power(w-n)), new(big.Int).Quo(x, power(n)))
	}
	panic("no operation")
}

// plainDiffer: what Differ should answer.
func plainDiffer(t, u []api.Event) (int, bool) {
	for k := range max(len(t), len(u)) {
		if k >= len(t) || k >= len(u) || t[k].Kind != u[k].Kind || t[k].A != u[k].A || t[k].B != u[k].B {
			return k, true
		}
	}
	return 0, false
}

// plainLeaks: what Leaks should answer of inputs that may be.
func plainLeaks(p api.Program, x, y []uint64) (bool, int) {
	t, u := plainly(p, x).Trace, plainly(p, y).Trace
	k, differ := plainDiffer(t, u)
	if !differ || k < len(t) && k < len(u) && t[k].Kind == api.EvRelease && u[k].Kind == api.EvRelease {
		return false, 0
	}
	return true, k
}
