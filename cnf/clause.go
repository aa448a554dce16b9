// Package cnf is layer 2: clauses and formulas, what an assignment says of them, resolution, and their text. See shared/doc/02-cnf.md.
package cnf

import (
	"cmp"
	"slices"

	"cadence/api"
)

// Lit: is it a literal?
func Lit(l int) bool { return l != 0 && l >= -api.MaxVars && l <= api.MaxVars }

// Norm: the set clause of a clause, and whether it is twofold.
func Norm(c api.Clause) (api.Clause, bool, api.Errno) {
	if len(c) > api.MaxClause {
		return nil, false, api.ErrClause
	}
	for _, l := range c {
		if !Lit(l) {
			return nil, false, api.ErrLit
		}
	}
	set := setOf(c)
	return set, twofold(set), api.OK
}

// Of: what an assignment says of a literal.
func Of(m []int8, l int) int8 {
	if !Lit(l) {
		return 0
	}
	v := variable(l)
	if v > len(m) || m[v-1] != 1 && m[v-1] != -1 {
		return 0
	}
	if l < 0 {
		return -m[v-1]
	}
	return m[v-1]
}

// Value: what an assignment says of a clause.
func Value(c api.Clause, m []int8) int8 {
	value := int8(-1)
	for _, l := range c {
		value = max(value, Of(m, l))
	}
	return value
}

// Resolve: what two clauses say together without a variable.
func Resolve(a, b api.Clause, v int) (api.Clause, api.Errno) {
	left, _, e := Norm(a)
	if e != api.OK {
		return nil, e
	}
	right, _, e := Norm(b)
	if e != api.OK {
		return nil, e
	}
	if v < 1 || v > api.MaxVars {
		return nil, api.ErrLit
	}
	if !has(left, v) || !has(right, -v) {
		return nil, api.ErrClause
	}
	joined := union(without(left, v), without(right, -v))
	if len(joined) > api.MaxClause {
		return nil, api.ErrClause
	}
	return joined, api.OK
}

// Subsumes: does every literal of a stand in b?
func Subsumes(a, b api.Clause) bool {
	small, _, e := Norm(a)
	if e != api.OK {
		return false
	}
	great, _, e := Norm(b)
	if e != api.OK {
		return false
	}
	for _, l := range small {
		if !has(great, l) {
			return false
		}
	}
	return true
}

// variable: of a literal.
func variable(l int) int {
	if l < 0 {
		return -l
	}
	return l
}

// rank: where a literal stands among all of them in set clauses.
func rank(l int) int {
	if l < 0 {
		return 2*variable(l) + 1
	}
	return 2 * l
}

// setOf: the set clause of a clause's literals.
func setOf(c api.Clause) api.Clause {
	set := slices.Clone(c)
	slices.SortFunc(set, func(a, b int) int { return cmp.Compare(rank(a), rank(b)) })
	return slices.Compact(set)
}

// union: the set clause of the literals of two set clauses.
func union(a, b api.Clause) api.Clause {
	all := make(api.Clause, 0, len(a)+len(b))
	for len(a) > 0 && len(b) > 0 {
		switch {
		case a[0] == b[0]:
			a = a[1:]
		case rank(a[0]) < rank(b[0]):
			all = append(all, a[0])
			a = a[1:]
		default:
			all = append(all, b[0])
			b = b[1:]
		}
	}
	return append(append(all, a...), b...)
}

// twofold: of a set clause, where the two literals of a variable stand side by side.
func twofold(set api.Clause) bool {
	for k := 1; k < len(set); k++ {
		if set[k] == -set[k-1] {
			return true
		}
	}
	return false
}

// has: of a set clause.
func has(set api.Clause, l int) bool {
	_, found := slices.BinarySearchFunc(set, l, func(a, b int) int { return cmp.Compare(rank(a), rank(b)) })
	return found
}

// without: a new clause of the literals that are not l, in their order.
func without(c api.Clause, l int) api.Clause {
	rest := make(api.Clause, 0, len(c))
	for _, x := range c {
		if x != l {
			rest = append(rest, x)
		}
	}
	return rest
}
