package known

import (
	"math/big"
	"slices"
	"testing"

	"cadence/api"
	"cadence/eval"
	"cadence/term"
)

// plain: a fact read on whole numbers: each bit, the lowest first, 1, 0, or -1 where it is not known; the bounds.
type plain struct {
	w          int
	bit        []int
	least, top *big.Int
}

func number(x uint64) *big.Int { return new(big.Int).SetUint64(x) }

// power: of two.
func power(n int) *big.Int { return new(big.Int).Lsh(big.NewInt(1), uint(n)) }

func plainOf(f api.Fact) plain {
	p := plain{w: f.W, least: number(f.Least), top: number(f.Top)}
	for i := range max(f.W, 1) {
		switch {
		case f.One>>i&1 == 1:
			p.bit = append(p.bit, 1)
		case f.Zero>>i&1 == 1:
			p.bit = append(p.bit, 0)
		default:
			p.bit = append(p.bit, -1)
		}
	}
	return p
}

func (p plain) fact() api.Fact {
	f := api.Fact{W: p.w, Least: p.least.Uint64(), Top: p.top.Uint64()}
	for i, b := range p.bit {
		switch b {
		case 1:
			f.One |= 1 << i
		case 0:
			f.Zero |= 1 << i
		}
	}
	return f
}

// open: nothing is known of it.
func open(w int) plain {
	bit := slices.Repeat([]int{-1}, max(w, 1))
	return plain{w: w, bit: bit, least: big.NewInt(0), top: number(whole(w))}
}

// has: is there a word? From the highest bit on, all that a word can be as far as that: still at the bounds, or not.
func (p plain) has() bool {
	var places [2][2]bool // at Least, at Top
	places[1][1] = true
	for i := len(p.bit) - 1; i >= 0; i-- {
		low, high := int(p.least.Bit(i)), int(p.top.Bit(i))
		var next [2][2]bool
		for at := range 4 {
			atLeast, atTop := at/2, at%2
			for b := range 2 {
				if !places[atLeast][atTop] || p.bit[i] == 1-b || atLeast == 1 && b < low || atTop == 1 && b > high {
					continue
				}
				stay := [2]int{} // only at a bound as long as the word is like it
				if b == low {
					stay[0] = atLeast
				}
				if b == high {
					stay[1] = atTop
				}
				next[stay[0]][stay[1]] = true
			}
		}
		places = next
	}
	return places != [2][2]bool{}
}

// with: a bit being known.
func (p plain) with(i, b int) plain {
	p.bit = slices.Clone(p.bit)
	if p.bit[i] == 1-b {
		p.least, p.top = big.NewInt(1), big.NewInt(0) // no word
	}
	p.bit[i] = b
	return p
}

// settled: of one that has a word.
func (p plain) settled() plain {
	s := open(p.w)
	for i := range p.bit {
		for b := range 2 {
			if !p.with(i, 1-b).has() {
				s.bit[i] = b
			}
		}
	}
	s.least, s.top = p.end(0), p.end(1)
	return s
}

// end: the least word, or the greatest: from the highest bit on, what can be.
func (p plain) end(first int) *big.Int {
	x := new(big.Int)
	for i := len(p.bit) - 1; i >= 0; i-- {
		b := first
		if !p.with(i, b).has() {
			b = 1 - first
		}
		p = p.with(i, b)
		x.SetBit(x, i, uint(b))
	}
	return x
}

// plainHas: has a fact that may be a word? One bit may be told both ways.
func plainHas(f api.Fact) bool { return f.One&f.Zero == 0 && plainOf(f).has() }

// plainSettle: of a fact with a word.
func plainSettle(f api.Fact) api.Fact { return plainOf(f).settled().fact() }

// plainApply: the section F14.3, for parts that have words, and fit.
func plainApply(t testing.TB, n api.Node, parts ...api.Fact) api.Fact {
	t.Helper()
	settled := []plain{}
	alone := true
	for _, f := range parts {
		p := plainOf(f).settled()
		alone = alone && p.least.Cmp(p.top) == 0
		settled = append(settled, p)
	}
	if n.Op == api.OpVar {
		return open(n.W).fact()
	}
	if alone {
		words := []uint64{}
		for _, p := range settled {
			words = append(words, p.least.Uint64())
		}
		return factOfWords(n.W, []uint64{evaluated(t, n, parts, words)})
	}
	return plainTable(n, settled).settled().fact()
}

// evaluated: what eval tells of a node whose parts are these words.
func evaluated(t testing.TB, n api.Node, parts []api.Fact, words []uint64) uint64 {
	t.Helper()
	s := newStore(t)
	vals := []api.Value{}
	made := [3]int{}
	for i, f := range parts {
		name := string(rune('a' + i))
		made[i] = must[int](t)(s.Var(name, f.W))
		vals = append(vals, api.Value{Name: name, W: f.W, Num: words[i]})
	}
	x := must[int](t)(s.Make(api.Node{Op: n.Op, W: n.W, A: made[0], B: made[1], C: made[2], Num: n.Num}))
	return must[uint64](t)(eval.Value(s, x, vals))
}

// plainTable: the table, row by row.
func plainTable(n api.Node, parts []plain) plain {
	z := open(n.W)
	a := parts[0]
	last := new(big.Int).Set(z.top) // M - 1
	switch n.Op {
	case api.OpNot, api.OpCom:
		for i := range z.bit {
			if a.bit[i] >= 0 {
				z.bit[i] = 1 - a.bit[i]
			}
		}
		z.least.Sub(last, a.top)
		z.top.Sub(last, a.least)
		return z
	case api.OpNeg:
		return plainSub(z, open(n.W).zero(), a)
	case api.OpSlice:
		copy(z.bit, a.bit[n.Num:])
		l, t := new(big.Int).Rsh(a.least, uint(n.Num)), new(big.Int).Rsh(a.top, uint(n.Num))
		m := power(n.W)
		if new(big.Int).Div(l, m).Cmp(new(big.Int).Div(t, m)) == 0 {
			z.least, z.top = l.Mod(l, m), t.Mod(t, m)
		}
		return z
	case api.OpZext, api.OpSext:
		return plainExt(n.Op, z, a)
	case api.OpIte:
		if a.bit[0] == 1 {
			return parts[1]
		}
		if a.bit[0] == 0 {
			return parts[2]
		}
		return plainJoin(parts[1], parts[2])
	}
	return plainTwo(n, z, a, parts[1])
}

// zero: 0 alone.
func (p plain) zero() plain {
	for i := range p.bit {
		p.bit[i] = 0
	}
	p.top = big.NewInt(0)
	return p
}

func plainExt(op int, z, a plain) plain {
	highest := a.bit[len(a.bit)-1]
	for i := range z.bit {
		switch {
		case i < a.w:
			z.bit[i] = a.bit[i]
		case op == api.OpZext:
			z.bit[i] = 0
		default:
			z.bit[i] = highest
		}
	}
	new1 := new(big.Int).Sub(power(z.w), power(a.w))
	switch {
	case op == api.OpZext || highest == 0:
		z.least, z.top = a.least, a.top
	case highest == 1:
		z.least.Add(a.least, new1)
		z.top.Add(a.top, new1)
	}
	return z
}

func plainJoin(b, c plain) plain {
	z := open(b.w)
	for i := range z.bit {
		if b.bit[i] == c.bit[i] {
			z.bit[i] = b.bit[i]
		}
	}
	z.least, z.top = lesser(b.least, c.least), greater(b.top, c.top)
	return z
}

func lesser(x, y *big.Int) *big.Int {
	if x.Cmp(y) < 0 {
		return x
	}
	return y
}

func greater(x, y *big.Int) *big.Int {
	if x.Cmp(y) > 0 {
		return x
	}
	return y
}

// plainTwo: of two parts.
func plainTwo(n api.Node, z, a, b plain) plain {
	switch n.Op {
	case api.OpAnd, api.OpBand, api.OpOr, api.OpBor, api.OpXor, api.OpBxor:
		return plainLogic(n.Op, z, a, b)
	case api.OpEq, api.OpUlt, api.OpUle, api.OpSlt, api.OpSle:
		return plainCompare(n.Op, z, a, b)
	case api.OpAdd:
		return plainAdd(z, a, b)
	case api.OpSub:
		return plainSub(z, a, b)
	case api.OpMul:
		return plainMul(z, a, b)
	case api.OpDiv:
		if b.least.Sign() > 0 {
			z.least.Div(a.least, b.top)
			z.top.Div(a.top, b.least)
		}
		return z
	case api.OpRem:
		z.top = a.top
		if b.least.Sign() > 0 {
			z.top = lesser(a.top, new(big.Int).Sub(b.top, big.NewInt(1)))
		}
		if b.least.Cmp(a.top) > 0 {
			return a
		}
		return z
	case api.OpCat:
		copy(z.bit, b.bit)
		copy(z.bit[b.w:], a.bit)
		z.least.Add(new(big.Int).Mul(a.least, power(b.w)), b.least)
		z.top.Add(new(big.Int).Mul(a.top, power(b.w)), b.top)
		return z
	}
	return plainShifts(n.Op, a, b)
}

func plainLogic(op int, z, a, b plain) plain {
	for i := range z.bit {
		x, y := a.bit[i], b.bit[i]
		switch {
		case op == api.OpAnd || op == api.OpBand:
			if x == 1 && y == 1 {
				z.bit[i] = 1
			} else if x == 0 || y == 0 {
				z.bit[i] = 0
			}
		case op == api.OpOr || op == api.OpBor:
			if x == 1 || y == 1 {
				z.bit[i] = 1
			} else if x == 0 && y == 0 {
				z.bit[i] = 0
			}
		case x >= 0 && y >= 0:
			z.bit[i] = x ^ y
		}
	}
	switch op {
	case api.OpAnd, api.OpBand:
		z.top = lesser(a.top, b.top)
	case api.OpOr, api.OpBor:
		z.least = greater(a.least, b.least)
	}
	return z
}

// plainCompare: with each word of a each word of b.
func plainCompare(op int, z, a, b plain) plain {
	each, none := true, true
	signed := func(x uint64) int64 { return int64(x<<(64-max(a.w, 1))) >> (64 - max(a.w, 1)) }
	for _, x := range wordsOf(a.fact()) {
		for _, y := range wordsOf(b.fact()) {
			holds := map[int]bool{
				api.OpEq: x == y, api.OpUlt: x < y, api.OpUle: x <= y,
				api.OpSlt: signed(x) < signed(y), api.OpSle: signed(x) <= signed(y),
			}[op]
			each, none = each && holds, none && !holds
		}
	}
	if each {
		z.bit[0] = 1
	}
	if none {
		z.bit[0] = 0
	}
	return z
}

// plainCarry: the bits of a sum.
func plainCarry(z, a, b plain, carry int) {
	for i := range z.bit {
		count := map[int]int{}
		for _, x := range []int{a.bit[i], b.bit[i], carry} {
			count[x]++
		}
		if count[-1] == 0 {
			z.bit[i] = count[1] % 2
		}
		switch {
		case count[1] >= 2:
			carry = 1
		case count[0] >= 2:
			carry = 0
		default:
			carry = -1
		}
	}
}

func plainAdd(z, a, b plain) plain {
	plainCarry(z, a, b, 0)
	m := power(z.w)
	least, top := new(big.Int).Add(a.least, b.least), new(big.Int).Add(a.top, b.top)
	switch {
	case top.Cmp(m) < 0:
		z.least, z.top = least, top
	case least.Cmp(m) >= 0:
		z.least, z.top = least.Sub(least, m), top.Sub(top, m)
	}
	return z
}

func plainSub(z, a, b plain) plain {
	opposite := plain{bit: slices.Clone(b.bit)}
	for i, x := range opposite.bit {
		if x >= 0 {
			opposite.bit[i] = 1 - x
		}
	}
	plainCarry(z, a, opposite, 1)
	m := power(z.w)
	least, top := new(big.Int).Sub(a.least, b.top), new(big.Int).Sub(a.top, b.least)
	switch {
	case a.least.Cmp(b.top) >= 0:
		z.least, z.top = least, top
	case a.top.Cmp(b.least) < 0:
		z.least, z.top = least.Add(least, m), top.Add(top, m)
	}
	return z
}

func plainMul(z, a, b plain) plain {
	k := 0
	x, y := new(big.Int), new(big.Int)
	for k < z.w && a.bit[k] >= 0 && b.bit[k] >= 0 {
		x.SetBit(x, k, uint(a.bit[k]))
		y.SetBit(y, k, uint(b.bit[k]))
		k++
	}
	x.Mul(x, y)
	for i := range k {
		z.bit[i] = int(x.Bit(i))
	}
	zeros := 0
	for _, p := range []plain{a, b} {
		for i := 0; i < z.w && p.bit[i] == 0; i++ {
			zeros++
		}
	}
	for i := range min(zeros, z.w) {
		z.bit[i] = 0
	}
	if top := new(big.Int).Mul(a.top, b.top); top.Cmp(power(z.w)) < 0 {
		z.least, z.top = new(big.Int).Mul(a.least, b.least), top
	}
	return z
}

// plainShifts: the Join by rising n.
func plainShifts(op int, a, b plain) plain {
	var joined *plain
	for n := range a.w {
		amount := b
		for i := 0; 1<<i < a.w; i++ {
			amount = amount.with(i, n>>i&1)
		}
		if !amount.has() {
			continue
		}
		z := plainShift(op, a, n).settled()
		if joined != nil {
			z = plainJoin(*joined, z)
		}
		joined = &z
	}
	return *joined
}

func plainShift(op int, a plain, n int) plain {
	z := open(a.w)
	for i := range z.bit {
		from := i - n
		if op == api.OpShr || op == api.OpSar || op == api.OpRor {
			from = i + n
		}
		switch {
		case op == api.OpRol || op == api.OpRor:
			z.bit[i] = a.bit[(from+a.w)%a.w]
		case from >= 0 && from < a.w:
			z.bit[i] = a.bit[from]
		case op == api.OpSar:
			z.bit[i] = a.bit[a.w-1]
		default:
			z.bit[i] = 0
		}
	}
	by := power(n)
	switch op {
	case api.OpShl:
		if top := new(big.Int).Mul(a.top, by); top.Cmp(power(a.w)) < 0 {
			z.least, z.top = new(big.Int).Mul(a.least, by), top
		}
	case api.OpShr:
		z.least, z.top = new(big.Int).Div(a.least, by), new(big.Int).Div(a.top, by)
	}
	return z
}

// plainFacts: the section F14.4 by calls within one another, Apply for each term.
func plainFacts(t testing.TB, s *term.Store, root int, names []string, told []api.Fact, found map[int]api.Fact) api.Fact {
	t.Helper()
	if f, there := found[root]; there {
		return f
	}
	n := nodeOf(s, root)
	if i := slices.Index(names, n.Name); n.Op == api.OpVar && i >= 0 {
		return plainSettle(told[i])
	}
	parts := [3]api.Fact{}
	for i, part := range []int{n.A, n.B, n.C} {
		if part > 0 {
			parts[i] = plainFacts(t, s, part, names, told, found)
		}
	}
	found[root] = must[api.Fact](t)(Apply(n, parts[0], parts[1], parts[2]))
	return found[root]
}
