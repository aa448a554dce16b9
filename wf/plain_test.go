package wf

import (
	"math/big"
	"slices"
	"sort"

	"cadence/api"
	"cadence/lang"
)

// What stands here is a plain reading of the chapter: all places in a list, each with the loops around it; sizes are whole numbers.

// spot: what stands at a place.
type spot struct {
	decl  *api.Decl
	stmt  *api.Stmt
	expr  *api.Expr
	deep  int
	loops []string // the nearest last
}

func spotsOf(p api.Program) []spot {
	var out []spot
	for _, d := range p.Decls {
		out = append(out, spot{decl: &d})
	}
	return append(out, stmtSpots(p.Body, 1, nil)...)
}

func stmtSpots(body []api.Stmt, deep int, loops []string) []spot {
	var out []spot
	for _, s := range body {
		out = append(out, spot{stmt: &s, deep: deep, loops: loops})
		switch s.Kind {
		case api.SSet:
			out = append(out, exprSpots(s.E, loops)...)
		case api.SStore:
			out = append(out, exprSpots(s.At, loops)...)
			out = append(out, exprSpots(s.E, loops)...)
		case api.SIf:
			out = append(out, exprSpots(s.E, loops)...)
			out = append(out, stmtSpots(s.Then, deep+1, loops)...)
			out = append(out, stmtSpots(s.Else, deep+1, loops)...)
		case api.SFor:
			out = append(out, stmtSpots(s.Then, deep+1, append(slices.Clone(loops), s.Name))...)
		}
	}
	return out
}

func exprSpots(e api.Expr, loops []string) []spot {
	out := []spot{{expr: &e, deep: plainDepth(e), loops: loops}}
	for _, k := range e.Kids {
		out = append(out, exprSpots(k, loops)...)
	}
	return out
}

func plainDepth(e api.Expr) int {
	deepest := 0
	for _, k := range e.Kids {
		deepest = max(deepest, plainDepth(k))
	}
	return deepest + 1
}

// plainNames: the names that are known at a place.
func plainNames(p api.Program, spots []spot, place int) []string {
	names := map[string]bool{}
	s := spots[place]
	for i, d := range p.Decls {
		if s.decl == nil || i < place {
			names[d.Name] = true
		}
	}
	for _, l := range s.loops {
		names[l] = true
	}
	var out []string
	for n := range names {
		out = append(out, n)
	}
	sort.Strings(out)
	return out
}

func plainSize(body []api.Stmt) *big.Int {
	sum := new(big.Int)
	for _, s := range body {
		sum.Add(sum, plainStmtSize(s))
	}
	return sum
}

func plainStmtSize(s api.Stmt) *big.Int {
	size := big.NewInt(1)
	switch s.Kind {
	case api.SSet:
		size.Add(size, plainExprSize(s.E))
	case api.SStore:
		size.Add(size, plainExprSize(s.At))
		size.Add(size, plainExprSize(s.E))
	case api.SIf:
		size.Add(size, plainExprSize(s.E))
		size.Add(size, plainSize(s.Then))
		size.Add(size, plainSize(s.Else))
	case api.SFor:
		lo, hi := new(big.Int).SetUint64(s.Lo), new(big.Int).SetUint64(s.Hi)
		if hi.Cmp(lo) > 0 {
			once := new(big.Int).Add(big.NewInt(1), plainSize(s.Then))
			size.Add(size, once.Mul(once, hi.Sub(hi, lo)))
		}
	}
	return size
}

func plainExprSize(e api.Expr) *big.Int {
	size := big.NewInt(1)
	for _, k := range e.Kids {
		size.Add(size, plainExprSize(k))
	}
	return size
}

// notBelow: is a number 2 to the Width-th, or above that?
func notBelow(n uint64, width int) bool {
	return new(big.Int).SetUint64(n).Cmp(new(big.Int).Lsh(big.NewInt(1), uint(width))) >= 0
}

func above(n uint64, width int) bool {
	return new(big.Int).SetUint64(n).Cmp(new(big.Int).Lsh(big.NewInt(1), uint(width))) > 0
}

// plainNamed: is the name known; does it name a loop; else which declaration.
func plainNamed(p api.Program, s spot, word string) (known, isLoop bool, d api.Decl) {
	if slices.Contains(s.loops, word) {
		return true, true, api.Decl{}
	}
	for _, d := range p.Decls {
		if d.Name == word {
			return true, false, d
		}
	}
	return false, false, api.Decl{}
}

// plainUse: the name that a thing uses, if it uses one.
func plainUse(s spot) (string, bool) {
	if s.expr != nil && (s.expr.Kind == api.EName || s.expr.Kind == api.ELoad) {
		return s.expr.Name, true
	}
	if s.stmt != nil && (s.stmt.Kind == api.SSet || s.stmt.Kind == api.SStore || s.stmt.Kind == api.SRelease) {
		return s.stmt.Name, true
	}
	return "", false
}

func plainWrongKind(s spot, isLoop bool, d api.Decl) bool {
	isSingle := !isLoop && d.Size == 0
	isArray := !isLoop && d.Size != 0
	switch {
	case s.expr != nil && s.expr.Kind == api.EName:
		return !isLoop && !isSingle
	case s.expr != nil:
		return !isArray
	case s.stmt.Kind == api.SStore:
		return !isArray || d.Kind == api.DConst
	}
	return !isSingle
}

func powerUpTo256(n int) bool {
	return slices.Contains([]int{1, 2, 4, 8, 16, 32, 64, 128, 256}, n)
}

// plainWhole: is a clause without a place violated?
func plainWhole(p api.Program, number int) bool {
	switch number {
	case 1:
		return !lang.Form(p)
	case 2:
		return !slices.Contains(widths(), p.Width)
	case 3:
		return !powerUpTo256(p.Line)
	case 4:
		return len(p.Decls) > 256
	case 9:
		words := 0
		for _, d := range p.Decls {
			if d.Kind == api.DPublic || d.Kind == api.DSecret {
				if d.Size == 0 {
					words++
				}
				words += d.Size
			}
		}
		return words > 4096
	case 16:
		return plainSize(p.Body).Cmp(big.NewInt(65536)) > 0
	}
	return false
}

// plainDecl: is a clause of declarations violated there?
func plainDecl(p api.Program, number, place int) bool {
	d := p.Decls[place]
	switch number {
	case 5:
		return slices.ContainsFunc(p.Decls[:place], func(o api.Decl) bool { return o.Name == d.Name })
	case 6:
		return d.Size != 0 && !powerUpTo256(d.Size)
	case 7:
		return d.Kind == api.DConst && len(d.Values) != d.Size
	case 8:
		return slices.ContainsFunc(d.Values, func(v uint64) bool { return notBelow(v, p.Width) })
	}
	return false
}

// plainThing: is a clause of all things violated there?
func plainThing(p api.Program, number int, s spot) bool {
	word, uses := plainUse(s)
	known, isLoop, d := plainNamed(p, s, word)
	loops := s.stmt != nil && s.stmt.Kind == api.SFor
	switch number {
	case 10:
		return s.deep > 64
	case 11:
		return uses && !known
	case 12:
		return uses && plainWrongKind(s, isLoop, d)
	case 13:
		return s.expr != nil && s.expr.Kind == api.ENum && notBelow(s.expr.Num, p.Width)
	case 14:
		return loops && (s.stmt.Lo > s.stmt.Hi || above(s.stmt.Hi, p.Width))
	case 15:
		if !loops {
			return false
		}
		known, _, _ := plainNamed(p, s, s.stmt.Name)
		return known
	}
	return false
}

// plainFault: clause by clause.
func plainFault(p api.Program, spots []spot) fault {
	for number := 1; number <= 16; number++ {
		if plainWhole(p, number) {
			return at(number, -1)
		}
		for i, s := range spots {
			if s.decl != nil && plainDecl(p, number, i) || s.decl == nil && plainThing(p, number, s) {
				return at(number, i)
			}
		}
	}
	return fault{}
}
