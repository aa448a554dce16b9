package cnf

import (
	"slices"
	"strconv"
	"strings"

	"cadence/api"
)

// maxDigits bounds the digits of a number in a formula's text.
const maxDigits = 9

// Print: the text of a formula.
func Print(f api.Formula) (string, api.Errno) {
	if _, e := Check(f); e != api.OK {
		return "", e
	}
	text := []byte("p cnf " + strconv.Itoa(f.Vars) + " " + strconv.Itoa(len(f.Clauses)) + "\n")
	for _, c := range f.Clauses {
		text = append(appendLits(text, c), "0\n"...)
	}
	return string(text), api.OK
}

// appendLits appends a clause's literals as they stand, a blank behind each.
func appendLits(text []byte, c api.Clause) []byte {
	for _, l := range c {
		text = append(strconv.AppendInt(text, int64(l), 10), ' ')
	}
	return text
}

// Parse: the formula of a text; with an error, its line.
func Parse(text string) (api.Formula, int, api.Errno) {
	var r reader
	line := 0
lines:
	for text != "" {
		var row string
		row, text, _ = strings.Cut(text, "\n")
		line++
		word, rest := cutWord(row)
		if word == "c" {
			continue
		}
		for ; word != ""; word, rest = cutWord(rest) {
			if !r.headed {
				if e := r.head(row); e != api.OK {
					return api.Formula{}, line, e
				}
				continue lines
			}
			if e := r.take(word); e != api.OK {
				return api.Formula{}, line, e
			}
		}
	}
	if !r.headed || len(r.clauses) < r.count {
		return api.Formula{}, line + 1, api.ErrText
	}
	return api.Formula{Vars: r.vars, Clauses: r.clauses}, 0, api.OK
}

// reader holds what was read of a formula's text.
type reader struct {
	headed      bool // the line that tells vars and count was read
	vars, count int
	clauses     []api.Clause
	open        api.Clause // the literals since the last 0
	lits        int
}

// head reads the line that says how many variables and clauses there are.
func (r *reader) head(row string) api.Errno {
	p, rest := cutWord(row)
	cnf, rest := cutWord(rest)
	v, rest := cutWord(rest)
	n, rest := cutWord(rest)
	more, _ := cutWord(rest)
	if p != "p" || cnf != "cnf" || more != "" {
		return api.ErrText
	}
	vars, isNumber := number(v)
	if !isNumber || vars < 0 {
		return api.ErrText
	}
	count, isNumber := number(n)
	if !isNumber || count < 0 {
		return api.ErrText
	}
	if vars > api.MaxVars {
		return api.ErrVars
	}
	if count > api.MaxClauses {
		return api.ErrClauses
	}
	r.headed, r.vars, r.count = true, vars, count
	return api.OK
}

// take reads a word behind that line.
func (r *reader) take(word string) api.Errno {
	l, isNumber := number(word)
	switch {
	case !isNumber:
		return api.ErrText
	case len(r.clauses) == r.count:
		return api.ErrClauses
	case l == 0:
		r.clauses = append(r.clauses, slices.Clone(r.open))
		r.open = r.open[:0]
		return api.OK
	case len(r.open) == api.MaxClause:
		return api.ErrClause
	case !among(l, r.vars):
		return api.ErrLit
	case r.lits == api.MaxLits:
		return api.ErrClauses
	}
	r.open = append(r.open, l)
	r.lits++
	return api.OK
}

// number: a word's number, and whether it is one. Its digits are few enough for every int.
func number(word string) (int, bool) {
	digits, minus := strings.CutPrefix(word, "-")
	if word == "0" {
		return 0, true
	}
	if digits == "" || digits[0] == '0' || len(digits) > maxDigits {
		return 0, false
	}
	// With base 10, ParseUint takes digits alone: no sign, no _.
	x, err := strconv.ParseUint(digits, 10, 31)
	if err != nil {
		return 0, false
	}
	if minus {
		return -int(x), true
	}
	return int(x), true
}

// cutWord: the first word of a row, "" if it has none, and what stands behind it.
func cutWord(row string) (string, string) {
	begin := 0
	for begin < len(row) && isBlank(row[begin]) {
		begin++
	}
	end := begin
	for end < len(row) && !isBlank(row[end]) {
		end++
	}
	return row[begin:end], row[end:]
}

func isBlank(b byte) bool { return b == ' ' || b == '\t' || b == '\r' }
