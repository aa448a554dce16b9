package lang

import "cadence/api"

// The rules of expressions, in the order of the grammar: a part of a later one binds closer.
const (
	ruleExpr = iota
	ruleOr
	ruleXor
	ruleAnd
	ruleShift
	ruleSum
	ruleProduct
	ruleUnary
	rulePrimary
)

// shape: the rule that a kind of expression is of, how many parts it takes, and its sign or word, if it has one.
type shape struct {
	rule, parts int
	sign        string
}

// shapes: by kinds.
var shapes = [api.ELast + 1]shape{
	api.ENum:  {rulePrimary, 0, ""},
	api.EName: {rulePrimary, 0, ""},
	api.ELoad: {rulePrimary, 1, ""},
	api.ECom:  {ruleUnary, 1, "~"},
	api.ENeg:  {ruleUnary, 1, "-"},
	api.EMul:  {ruleProduct, 2, "*"},
	api.EDiv:  {ruleProduct, 2, "/"},
	api.ERem:  {ruleProduct, 2, "%"},
	api.EAdd:  {ruleSum, 2, "+"},
	api.ESub:  {ruleSum, 2, "-"},
	api.EShl:  {ruleShift, 2, "<<"},
	api.EShr:  {ruleShift, 2, ">>"},
	api.ERol:  {ruleShift, 2, "<<<"},
	api.ERor:  {ruleShift, 2, ">>>"},
	api.EAnd:  {ruleAnd, 2, "&"},
	api.EXor:  {ruleXor, 2, "^"},
	api.EOr:   {ruleOr, 2, "|"},
	api.EEq:   {ruleExpr, 2, "=="},
	api.ENe:   {ruleExpr, 2, "!="},
	api.ELt:   {ruleExpr, 2, "<"},
	api.ELe:   {ruleExpr, 2, "<="},
	api.EGt:   {ruleExpr, 2, ">"},
	api.EGe:   {ruleExpr, 2, ">="},
	api.ESar:  {rulePrimary, 2, "sar"},
	api.ESlt:  {rulePrimary, 2, "slt"},
	api.ESel:  {rulePrimary, 3, "sel"},
}

// The first and the last kind of each way to write an operation.
const (
	firstUnary, lastUnary   = api.ECom, api.ENeg
	firstBinary, lastBinary = api.EMul, api.EGe
	firstCall, lastCall     = api.ESar, api.ESel
)

// isBinary: is a kind that of an operator between two parts?
func isBinary(kind int) bool { return kind >= firstBinary && kind <= lastBinary }

// fields: what a kind of statement has.
type fields struct {
	name, at, e, bounds, then, otherwise bool
}

// stmtFields: by kinds.
var stmtFields = [api.SRelease + 1]fields{
	api.SSet:     {name: true, e: true},
	api.SStore:   {name: true, at: true, e: true},
	api.SIf:      {e: true, then: true, otherwise: true},
	api.SFor:     {name: true, bounds: true, then: true},
	api.SRelease: {name: true},
}

// declWords: the word of each kind of declaration.
var declWords = [api.DOut + 1]string{
	api.DPublic: "public",
	api.DSecret: "secret",
	api.DConst:  "const",
	api.DVar:    "var",
	api.DOut:    "out",
}

// signs: a longer one ahead of those that it begins with.
var signs = [...]string{
	"<<<", ">>>", "<<", ">>", "<=", ">=", "==", "!=", "<", ">", "=", "+", "-", "*", "/", "%",
	"&", "^", "|", "~", "(", ")", "[", "]", "{", "}", ",", ";",
}
