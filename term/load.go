package term

import (
	"strings"

	"cadence/api"
	"cadence/bits"
)

// Load: the store and the roots of a text; with an error, the line that is none (P707).
func Load(text string, limit int) (s *Store, roots []int, line int, e api.Errno) {
	s, e = New(limit)
	if e != api.OK {
		return nil, nil, 0, e
	}
	defer func() {
		if why := recover(); why != nil {
			given := why.(givenUp)
			s, roots, line, e = nil, nil, given.line, given.code
		}
	}()
	r := reader{store: s}
	return s, r.all(text), 0, api.OK
}

// numberEnd: numbers of a text are below that, but those of constants.
const numberEnd = 1 << 31

// givenUp: why a text is read no further, and where.
type givenUp struct {
	line int
	code api.Errno
}

// reader reads a text line by line. What it can not read it gives up by a panic, which Load catches.
type reader struct {
	store *Store
	terms []int  // of the lines up to now
	line  int    // the number of the line that is read
	rest  string // what is not read of it
}

// giveUp ends the reading at the line as it stands.
func (r *reader) giveUp(code api.Errno) { panic(givenUp{r.line, code}) }

// all: the roots of a text, whose terms go into the store.
func (r *reader) all(text string) []int {
	for text != "" {
		r.next(&text)
		first := r.word()
		if first != rootsWord {
			r.term(first)
			continue
		}
		roots := r.roots()
		if text != "" {
			r.next(&text)
			r.giveUp(api.ErrText)
		}
		return roots
	}
	r.line++
	r.giveUp(api.ErrText)
	return nil
}

// next goes to the first line of a text, and takes it from there.
func (r *reader) next(text *string) {
	r.rest, *text, _ = strings.Cut(*text, "\n")
	r.line++
}

// term reads the line of a term, behind its first word.
func (r *reader) term(first string) {
	if r.below(first) != r.line {
		r.giveUp(api.ErrText)
	}
	n := r.node(r.operation())
	r.end()
	t, e := r.store.Make(n)
	if e != api.OK {
		r.giveUp(e)
	}
	r.terms = append(r.terms, t)
}

// node reads what stands behind an operation's word.
func (r *reader) node(op int) api.Node {
	n := api.Node{Op: op}
	switch op {
	case api.OpConst:
		n.W = r.number()
		n.Num = r.wide(r.word())
	case api.OpVar:
		n.Name = r.word()
		n.W = r.number()
	case api.OpSlice:
		n.A = r.part()
		n.Num = uint64(r.number())
		n.W = r.number()
	case api.OpZext, api.OpSext:
		n.A = r.part()
		n.W = r.number()
	default:
		var parts [3]int
		for i := range partsOf(op) {
			parts[i] = r.part()
		}
		n = r.store.meant(op, parts[0], parts[1], parts[2])
	}
	return n
}

// roots reads the line of the roots, behind its first word.
func (r *reader) roots() []int {
	var roots []int
	for r.more() {
		roots = append(roots, r.part())
	}
	return roots
}

// operation reads an operation's word.
func (r *reader) operation() int {
	word := r.word()
	for op := api.OpTrue; op <= api.OpLast; op++ {
		if opWords[op] == word {
			return op
		}
	}
	r.giveUp(api.ErrText)
	return 0
}

// part reads the number of a line ahead: that line's term.
func (r *reader) part() int {
	line := r.number()
	if line < 1 || line > len(r.terms) {
		r.giveUp(api.ErrText)
	}
	return r.terms[line-1]
}

// number reads a number.
func (r *reader) number() int { return r.below(r.word()) }

// below: the number of a word, if it is not too great.
func (r *reader) below(word string) int {
	x := r.wide(word)
	if x >= numberEnd {
		r.giveUp(api.ErrText)
	}
	return int(x)
}

// wide: the number of a word.
func (r *reader) wide(word string) uint64 {
	x, e := bits.Number(word)
	if e != api.OK {
		r.giveUp(api.ErrText)
	}
	return x
}

// word reads a word of the line.
func (r *reader) word() string {
	if !r.more() {
		r.giveUp(api.ErrText)
	}
	var word string
	word, r.rest, _ = strings.Cut(r.rest, " ")
	return word
}

// more: is there a word left in the line? It takes the blanks ahead of it.
func (r *reader) more() bool {
	r.rest = strings.TrimLeft(r.rest, " ")
	return r.rest != ""
}

// end: the line has no word more.
func (r *reader) end() {
	if r.more() {
		r.giveUp(api.ErrText)
	}
}
