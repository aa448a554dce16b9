package wf

import (
	"cadence/api"
	"cadence/bits"
	"cadence/lang"
)

// clause: the error, what it goes over, and what is not as it must be.
type clause struct {
	code  api.Errno
	over  walk
	wrong func(x *subject, t thing) bool
}

// clauses: in their order; each one may lean on those ahead of it.
func clauses() []clause {
	whole, decls, things := (*subject).whole, (*subject).decls, (*subject).things
	return []clause{
		{api.ErrArg, whole, noForm},
		{api.ErrWidth, whole, noWidth},
		{api.ErrPower, whole, noLine},
		{api.ErrSize, whole, manyDecls},
		{api.ErrTwice, decls, declaredAhead},
		{api.ErrPower, decls, noSize},
		{api.ErrValues, decls, otherLength},
		{api.ErrRange, decls, wideValue},
		{api.ErrInputs, whole, manyInputs},
		{api.ErrDeep, things, tooDeep},
		{api.ErrUnknown, things, unknownName},
		{api.ErrKind, things, otherKind},
		{api.ErrRange, things, wideNumber},
		{api.ErrBounds, things, noBounds},
		{api.ErrLoop, things, usedName},
		{api.ErrUnrolled, whole, tooGreat},
	}
}

func noForm(x *subject, _ thing) bool { return !lang.Form(*x.program) }

func noWidth(x *subject, _ thing) bool {
	switch x.program.Width {
	case 4, 8, 16, 32, 64:
		return false
	}
	return true
}

func noLine(x *subject, _ thing) bool { return !isArraySize(x.program.Line) }

// isArraySize: a power of two that is not above what an array may have.
func isArraySize(n int) bool { return n > 0 && n <= api.MaxArray && n&(n-1) == 0 }

func manyDecls(x *subject, _ thing) bool { return len(x.program.Decls) > api.MaxNames }

func declaredAhead(x *subject, t thing) bool {
	first, _ := x.declared(t.decl.Name)
	return first != t.place
}

func noSize(_ *subject, t thing) bool { return t.decl.Size != 0 && !isArraySize(t.decl.Size) }

func otherLength(_ *subject, t thing) bool {
	return t.decl.Kind == api.DConst && len(t.decl.Values) != t.decl.Size
}

func wideValue(x *subject, t thing) bool {
	for _, v := range t.decl.Values {
		if !x.fits(v) {
			return true
		}
	}
	return false
}

func manyInputs(x *subject, _ thing) bool {
	words := 0
	for _, d := range x.program.Decls {
		if d.Kind == api.DPublic || d.Kind == api.DSecret {
			words += max(d.Size, 1)
		}
	}
	return words > api.MaxInputs
}

// tooDeep looks only at an expression that stands in a statement: it is deeper than all that stand in it, and ahead of them.
func tooDeep(_ *subject, t thing) bool {
	return t.deep > api.MaxDepth || t.top && isDeeper(t.expr, api.MaxDepth)
}

// isDeeper: is an expression more than so deep? It goes down no further than that.
func isDeeper(e *api.Expr, most int) bool {
	if most == 0 {
		return true
	}
	for i := range e.Kids {
		if isDeeper(&e.Kids[i], most-1) {
			return true
		}
	}
	return false
}

func unknownName(x *subject, t thing) bool {
	name, takes := t.use()
	return takes != nothing && x.meaning(name, t.loops) == nothing
}

func otherKind(x *subject, t thing) bool {
	name, takes := t.use()
	return takes != nothing && takes&x.meaning(name, t.loops) == nothing
}

func wideNumber(x *subject, t thing) bool {
	return t.expr != nil && t.expr.Kind == api.ENum && !x.fits(t.expr.Num)
}

func noBounds(x *subject, t thing) bool {
	return t.isLoop() && (t.stmt.Lo > t.stmt.Hi || t.stmt.Hi > 0 && !x.fits(t.stmt.Hi-1))
}

func usedName(x *subject, t thing) bool {
	return t.isLoop() && x.meaning(t.stmt.Name, t.loops) != nothing
}

func tooGreat(x *subject, _ thing) bool { return stmtsSize(x.program.Body) > api.MaxSteps }

// fits: is a number below 2 to the Width-th?
func (x *subject) fits(n uint64) bool { return bits.Trim(x.program.Width, n) == n }

func (t thing) isLoop() bool { return t.stmt != nil && t.stmt.Kind == api.SFor }
