package need

import (
	"math/big"
	"strings"
)

// mostDigits: no bound has more; a longer text is not read, since that would take far too long where it has many millions of digits.
const mostDigits = 19

// notAbove: is a text a decimal number, and not above a bound? A text that is none counts as greater than all.
func notAbove(text string, bound int64) bool {
	if !isDecimal(text) {
		return false
	}
	digits := strings.TrimLeft(text, "0")
	if len(digits) > mostDigits {
		return false
	}
	n, ok := new(big.Int).SetString("0"+digits, 10)
	return ok && n.Cmp(big.NewInt(bound)) <= 0
}

// isDecimal: one digit or more, and nothing else.
func isDecimal(text string) bool {
	for i := range len(text) {
		if text[i] < '0' || text[i] > '9' {
			return false
		}
	}
	return text != ""
}
