package simp

import "cadence/api"

// ruleTable: the rules of each operation, in the chapter's order; none of those that are made as they are.
func ruleTable() []rule {
	return []rule{
		api.OpNot:   notRules,
		api.OpAnd:   andRules,
		api.OpOr:    orRules,
		api.OpXor:   xorRules,
		api.OpEq:    inTurn(eqRules, eqUndone, eqNarrower),
		api.OpUlt:   ultRules,
		api.OpUle:   turnedBack(api.OpUlt),
		api.OpSlt:   sltRules,
		api.OpSle:   turnedBack(api.OpSlt),
		api.OpIte:   inTurn(iteRules, iteTruths, iteNested),
		api.OpCom:   inTurn(oneConstant, twice),
		api.OpNeg:   inTurn(oneConstant, twice, negRules),
		api.OpBand:  inTurn(bothConstants, constantLast, bandRules, gathered),
		api.OpBor:   inTurn(bothConstants, constantLast, borRules, gathered),
		api.OpBxor:  inTurn(bothConstants, constantLast, bxorRules, gathered, bxorUndone),
		api.OpAdd:   inTurn(bothConstants, constantLast, addRules),
		api.OpSub:   inTurn(bothConstants, subRules),
		api.OpMul:   inTurn(bothConstants, constantLast, mulRules, gathered),
		api.OpDiv:   inTurn(bothConstants, divRules),
		api.OpRem:   inTurn(bothConstants, remRules),
		api.OpShl:   inTurn(bothConstants, shiftRules, shiftTwice),
		api.OpShr:   inTurn(bothConstants, shiftRules, shiftTwice),
		api.OpSar:   inTurn(bothConstants, shiftRules),
		api.OpRol:   inTurn(bothConstants, shiftRules, rolTwice),
		api.OpRor:   inTurn(bothConstants, shiftRules, rorRules),
		api.OpCat:   inTurn(bothConstants, catRules),
		api.OpSlice: inTurn(sliceRules, sliceOfCat, sliceOfZext),
		api.OpZext:  extRules,
		api.OpSext:  inTurn(extRules, sextRules),
	}
}

// hasRules: may a node of that operation become another?
func hasRules(op int) bool { return op >= api.OpNot && op <= api.OpLast }

// inTurn: the first of several rules that fits.
func inTurn(rules ...rule) rule {
	return func(m *Maker, n node) (step, bool) {
		for _, r := range rules {
			if s, fits := r(m, n); fits {
				return s, true
			}
		}
		return none()
	}
}
