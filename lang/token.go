package lang

import (
	"strings"

	"cadence/api"
	"cadence/bits"
)

// The kinds of tokens: a reserved word and a sign are themselves.
const (
	noToken = iota
	theEnd
	aName
	aNumber
	itself
)

// token: a piece of a text; num: of a number.
type token struct {
	kind int
	text string
	num  uint64
	line int
}

// comment: what begins one.
const comment = "//"

// scanner goes through a text token by token. What is no token it gives up by a panic, which Parse catches.
type scanner struct {
	text string
	at   int // where the rest of it begins
	line int // the line there
}

func newScanner(text string) scanner { return scanner{text: text, line: 1} }

// checkTokens gives up at the first thing of a text that is no token: that is told ahead of any fault of the grammar.
func checkTokens(text string) {
	s := newScanner(text)
	for s.next().kind != theEnd {
	}
}

// next: the token that comes, which is gone past.
func (s *scanner) next() token {
	s.skipBlanks()
	rest := s.text[s.at:]
	t := token{line: s.line}
	switch {
	case rest == "":
		t.kind = theEnd
	case isLetter(rest[0]):
		t.kind, t.text = wordKind(rest[:wordLength(rest)])
	case isDigit(rest[0]):
		t.text = rest[:wordLength(rest)]
		t.kind, t.num = numberKind(t.text)
	default:
		t.kind, t.text = firstSign(rest)
	}
	if t.kind == noToken {
		panic(fault{s.line, api.ErrToken})
	}
	s.at += len(t.text)
	return t
}

// skipBlanks goes past blanks and comments.
func (s *scanner) skipBlanks() {
	for s.at < len(s.text) {
		switch s.text[s.at] {
		case '\n':
			s.line++
			s.at++
		case '\t', '\r', ' ':
			s.at++
		default:
			if !strings.HasPrefix(s.text[s.at:], comment) {
				return
			}
			s.skipLine()
		}
	}
}

// skipLine goes to the byte 10 that comes, or to the end.
func (s *scanner) skipLine() {
	n := strings.IndexByte(s.text[s.at:], '\n')
	if n < 0 {
		n = len(s.text) - s.at
	}
	s.at += n
}

// wordLength: how many bytes a text begins with that can stand in a word.
func wordLength(s string) int {
	n := 0
	for n < len(s) && (isLetter(s[n]) || isDigit(s[n])) {
		n++
	}
	return n
}

// wordKind: a word's kind, with the word; noToken, if it is too long to be a token.
func wordKind(word string) (int, string) {
	switch {
	case Reserved(word):
		return itself, word
	case bits.Name(word):
		return aName, word
	}
	return noToken, ""
}

// numberKind: the kind of what begins with a digit, with the number; noToken, if it is none.
func numberKind(word string) (int, uint64) {
	num, e := bits.Number(word)
	if e != api.OK {
		return noToken, 0
	}
	return aNumber, num
}

// firstSign: the longest sign that a text begins with; noToken, if there is none.
func firstSign(s string) (int, string) {
	for _, sign := range signs {
		if strings.HasPrefix(s, sign) {
			return itself, sign
		}
	}
	return noToken, ""
}

// isName: a word that may be used to call something.
func isName(s string) bool { return bits.Name(s) && !Reserved(s) }

func isLetter(b byte) bool { return b >= 'a' && b <= 'z' || b >= 'A' && b <= 'Z' || b == '_' }

func isDigit(b byte) bool { return b >= '0' && b <= '9' }
