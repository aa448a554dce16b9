package lang

import "cadence/api"

// expr reads an expression of a rule, or of a later one. Operators of one rule go from the left: a right part is of a later rule alone.
func (r *parser) expr(rule int) api.Expr {
	left := r.unary()
	for {
		kind := r.kindAhead(firstBinary, lastBinary)
		if kind == 0 || shapes[kind].rule < rule {
			return left
		}
		r.step()
		right := r.expr(shapes[kind].rule + 1)
		left = api.Expr{Kind: kind, Kids: []api.Expr{left, right}}
	}
}

// kindAhead: the kind, among some, whose sign or word is ahead; 0, if none is.
func (r *parser) kindAhead(first, last int) int {
	for kind := first; kind <= last; kind++ {
		if r.at(shapes[kind].sign) {
			return kind
		}
	}
	return 0
}

// unary reads an operator of one part with that, or a primary.
func (r *parser) unary() api.Expr {
	kind := r.kindAhead(firstUnary, lastUnary)
	if kind == 0 {
		return r.primary()
	}
	r.enter()
	part := r.unary()
	r.open--
	return api.Expr{Kind: kind, Kids: []api.Expr{part}}
}

// primary reads what no operator stands in.
func (r *parser) primary() api.Expr {
	switch {
	case r.ahead.kind == aNumber:
		return api.Expr{Kind: api.ENum, Num: r.number()}
	case r.ahead.kind == aName:
		return r.word()
	case r.at("("):
		r.enter()
		e := r.expr(ruleExpr)
		r.takeClose(")")
		return e
	}
	return r.call()
}

// word reads a name, with an index if there is one.
func (r *parser) word() api.Expr {
	e := api.Expr{Kind: api.EName, Name: r.name()}
	if r.at("[") {
		e.Kind, e.Kids = api.ELoad, []api.Expr{r.index()}
	}
	return e
}

// index reads what stands in [ ].
func (r *parser) index() api.Expr {
	r.takeOpen("[")
	e := r.expr(ruleExpr)
	r.takeClose("]")
	return e
}

// call reads an operation that is written as a word with its parts.
func (r *parser) call() api.Expr {
	kind := r.kindAhead(firstCall, lastCall)
	if kind == 0 {
		r.giveUp(api.ErrSyntax)
	}
	r.step()
	r.takeOpen("(")
	kids := []api.Expr{r.expr(ruleExpr)}
	for len(kids) < shapes[kind].parts {
		r.take(",")
		kids = append(kids, r.expr(ruleExpr))
	}
	r.takeClose(")")
	return api.Expr{Kind: kind, Kids: kids}
}
