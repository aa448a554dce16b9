package aig

import (
	"strings"

	"cadence/api"
)

// Parse: a text as Print tells it, as a new graph and its roots; or the line of the first fault (F10.9).
func Parse(text string) (*Graph, []uint32, int, api.Errno) {
	r := reader{rest: text}
	g, roots, e := r.graph()
	if e != api.OK {
		return nil, nil, r.line, e
	}
	return g, roots, 0, api.OK
}

// reader goes through a text line by line.
type reader struct {
	rest string
	line int // the number of the one that was read last
}

// header is what the first line says.
type header struct{ vars, inputs, roots, gates uint32 }

func (r *reader) graph() (*Graph, []uint32, api.Errno) {
	h, e := r.header()
	if e != api.OK {
		return nil, nil, e
	}
	g := New()
	made := []uint32{0} // the literal of each variable, and of false
	if !r.inputs(h) {
		return nil, nil, api.ErrText
	}
	for range h.inputs {
		made = append(made, g.add())
	}
	roots, ok := r.roots(h)
	if !ok {
		return nil, nil, api.ErrText
	}
	w := g.begin()
	for i := range h.gates {
		gate, ok := r.gate(2 * (h.inputs + i + 1))
		if !ok {
			return nil, nil, api.ErrText
		}
		a, b := made[gate.A>>1], made[gate.B>>1]
		made = append(made, w.and(turned(a, gate.A), turned(b, gate.B)))
	}
	if r.rest != "" {
		r.line++
		return nil, nil, api.ErrText
	}
	for i, l := range roots {
		roots[i] = turned(made[l>>1], l)
	}
	return g, roots, api.OK
}

// header: M, I, 0, O and A. No memory is laid out by them: what they promise may be missing.
func (r *reader) header() (header, api.Errno) {
	line, ok := r.next()
	if !ok {
		return header{}, api.ErrText
	}
	var n [5]uint32
	words, ok := strings.CutPrefix(line, "aag ")
	if !ok || !numbersOf(words, n[:]) || n[2] != 0 || n[0] != n[1]+n[4] {
		return header{}, api.ErrText
	}
	if n[0] >= api.MaxNodes { // Nine digits do not reach the limit as it stands today.
		return header{}, api.ErrSize
	}
	return header{vars: n[0], inputs: n[1], roots: n[3], gates: n[4]}, api.OK
}

// inputs: whether their lines are there.
func (r *reader) inputs(h header) bool {
	for i := range h.inputs {
		var own [1]uint32
		if !r.numbers(own[:]) || own[0] != 2*(i+1) {
			return false
		}
	}
	return true
}

// roots: as they stand in the text.
func (r *reader) roots(h header) ([]uint32, bool) {
	var roots []uint32
	for range h.roots {
		var l [1]uint32
		if !r.numbers(l[:]) || l[0] > 2*h.vars+1 {
			return nil, false
		}
		roots = append(roots, l[0])
	}
	return roots, true
}

// gate: the operands, as they stand in the text, of a gate whose own literal must be this one.
func (r *reader) gate(own uint32) (api.Gate, bool) {
	var l [3]uint32
	if !r.numbers(l[:]) || l[0] != own || l[1] >= own || l[2] >= own {
		return api.Gate{}, false
	}
	return api.Gate{A: l[1], B: l[2]}, true
}

// next: the next line without its byte 10; not ok where that is missing.
func (r *reader) next() (string, bool) {
	r.line++
	line, rest, ok := strings.Cut(r.rest, "\n")
	r.rest = rest
	return line, ok
}

// numbers: whether the next line is so many numbers, which it then puts in.
func (r *reader) numbers(into []uint32) bool {
	line, ok := r.next()
	return ok && numbersOf(line, into)
}

func numbersOf(line string, into []uint32) bool {
	for i := range into {
		word, rest, more := strings.Cut(line, " ")
		n, ok := number(word)
		if last := i == len(into)-1; !ok || more == last {
			return false
		}
		into[i], line = n, rest
	}
	return true
}

// number: of one to nine digits without a zero ahead.
func number(word string) (uint32, bool) {
	if word == "" || len(word) > 9 || len(word) > 1 && word[0] == '0' {
		return 0, false
	}
	n := uint32(0)
	for _, c := range []byte(word) {
		if c < '0' || c > '9' {
			return 0, false
		}
		n = 10*n + uint32(c-'0')
	}
	return n, true
}
