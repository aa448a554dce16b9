package rup

import (
	"strconv"
	"strings"

	"cadence/api"
)

// Text: a proof as text, a line a step (P504).
func Text(p []api.Step) string {
	var text []byte
	for _, s := range p {
		if s.Drop {
			text = append(text, "d "...)
		}
		text = append(appendLiterals(text, s.Clause), "0\n"...)
	}
	return string(text)
}

// appendLiterals appends literals as they stand, a blank behind each.
func appendLiterals(text []byte, c []int) []byte {
	for _, l := range c {
		text = append(strconv.AppendInt(text, int64(l), 10), ' ')
	}
	return text
}

// What a line of a proof's text is.
const (
	isWrong = iota
	isNothing
	isStep
)

// Parse: the proof of a text; with an error, the line that is none (P504).
func Parse(s string) ([]api.Step, int, api.Errno) {
	var steps []api.Step
	for line := 1; s != ""; line++ {
		var row string
		row, s, _ = strings.Cut(s, "\n")
		switch step, kind := parseLine(row); kind {
		case isWrong:
			return nil, line, api.ErrText
		case isStep:
			steps = append(steps, step)
		}
	}
	return steps, 0, api.OK
}

// parseLine: the step of a line, if it is one.
func parseLine(row string) (api.Step, int) {
	var step api.Step
	word, rest := cutWord(row)
	if word == "" || word == "c" {
		return api.Step{}, isNothing
	}
	if word == "d" {
		step.Drop = true
		word, rest = cutWord(rest)
	}
	for word != "0" {
		l := literal(word)
		if l == 0 {
			goto wrong
		}
		step.Clause = append(step.Clause, l)
		word, rest = cutWord(rest)
	}
	if word, _ = cutWord(rest); word != "" {
		goto wrong
	}
	return step, isStep
wrong:
	return api.Step{}, isWrong
}

// literal: the number of a word; 0, if it is none, or 0.
func literal(word string) int {
	digits, minus := strings.CutPrefix(word, "-")
	if digits == "" || digits[0] == '0' {
		return 0
	}
	// With base 10, ParseUint takes digits alone: no sign, no _.
	x, err := strconv.ParseUint(digits, 10, 31)
	if err != nil {
		return 0
	}
	if minus {
		return -int(x)
	}
	return int(x)
}

// cutWord: the first word of a row, "" if it has none, and what stands behind it.
func cutWord(row string) (string, string) {
	begin := 0
	for begin < len(row) && isBlank(row[begin]) {
		begin++
	}
	end := begin
	for end < len(row) && !isBlank(row[end]) {
		end++
	}
	return row[begin:end], row[end:]
}

func isBlank(b byte) bool { return b == ' ' || b == '\t' || b == '\r' }
