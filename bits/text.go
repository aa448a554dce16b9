package bits

import (
	"strconv"
	"strings"

	"cadence/api"
)

// hexMark stands ahead of hexadecimal digits.
const hexMark = "0x"

// firstHex is the least number that Text tells in hexadecimal digits.
const firstHex = 1000

// Number: the number of a text.
func Number(s string) (uint64, api.Errno) {
	base := 10
	if rest, found := strings.CutPrefix(s, hexMark); found {
		s, base = rest, 16
	}
	// With a base other than 0, ParseUint takes digits alone: no sign, no mark, no _.
	x, err := strconv.ParseUint(s, base, 64)
	if err != nil {
		return 0, api.ErrNumber
	}
	return x, api.OK
}

// Text: the text of a number.
func Text(x uint64) string {
	if x < firstHex {
		return strconv.FormatUint(x, 10)
	}
	return hexMark + strconv.FormatUint(x, 16)
}

// Name: is it a name?
func Name(s string) bool {
	if s == "" || len(s) > api.MaxName {
		return false
	}
	for i, r := range s {
		if !startsName(r) && (i == 0 || !isDigit(r)) {
			return false
		}
	}
	return true
}

func startsName(r rune) bool {
	return r >= 'a' && r <= 'z' || r >= 'A' && r <= 'Z' || r == '_'
}

func isDigit(r rune) bool { return r >= '0' && r <= '9' }
