package term

import (
	"fmt"
	"math"
	"math/big"
	"slices"
	"strconv"
	"strings"
	"testing"

	"cadence/api"
	"cadence/bits"
)

// picker tells numbers that look like chance, the same ones in each run.
type picker uint64

func (p *picker) below(n int) int {
	*p ^= *p << 13
	*p ^= *p >> 7
	*p ^= *p << 17
	return int(uint64(*p>>11) % uint64(n))
}

func pick[T any](p *picker, list ...T) T { return list[p.below(len(list))] }

// row: of the chapter's table of what a node must be, and of P706's words.
type row struct {
	op    int
	word  string
	parts string // a letter a part: t a truth, w a word, x either
	alike bool   // its last two parts are of one sort
	width string // what W must be
}

// rows: the table.
var rows = []row{
	{api.OpTrue, "true", "", false, "0"},
	{api.OpFalse, "false", "", false, "0"},
	{api.OpConst, "const", "", false, "1 to 64"},
	{api.OpVar, "var", "", false, "0 to 64"},
	{api.OpNot, "not", "t", false, "0"},
	{api.OpAnd, "and", "tt", false, "0"},
	{api.OpOr, "or", "tt", false, "0"},
	{api.OpXor, "xor", "tt", false, "0"},
	{api.OpEq, "eq", "xx", true, "0"},
	{api.OpUlt, "ult", "ww", true, "0"},
	{api.OpUle, "ule", "ww", true, "0"},
	{api.OpSlt, "slt", "ww", true, "0"},
	{api.OpSle, "sle", "ww", true, "0"},
	{api.OpIte, "ite", "txx", true, "that of B"},
	{api.OpCom, "com", "w", false, "that of A"},
	{api.OpNeg, "neg", "w", false, "that of A"},
	{api.OpBand, "band", "ww", true, "that of A"},
	{api.OpBor, "bor", "ww", true, "that of A"},
	{api.OpBxor, "bxor", "ww", true, "that of A"},
	{api.OpAdd, "add", "ww", true, "that of A"},
	{api.OpSub, "sub", "ww", true, "that of A"},
	{api.OpMul, "mul", "ww", true, "that of A"},
	{api.OpDiv, "div", "ww", true, "that of A"},
	{api.OpRem, "rem", "ww", true, "that of A"},
	{api.OpShl, "shl", "ww", true, "that of A, a power of two"},
	{api.OpShr, "shr", "ww", true, "that of A, a power of two"},
	{api.OpSar, "sar", "ww", true, "that of A, a power of two"},
	{api.OpRol, "rol", "ww", true, "that of A, a power of two"},
	{api.OpRor, "ror", "ww", true, "that of A, a power of two"},
	{api.OpCat, "cat", "ww", false, "that of A + that of B"},
	{api.OpSlice, "slice", "w", false, "1 or more"},
	{api.OpZext, "zext", "w", false, "not below A's"},
	{api.OpSext, "sext", "w", false, "not below A's"},
}

// plain: a store in the chapter's words alone: a list that is gone through.
type plain struct {
	limit int
	nodes []api.Node
}

func (p *plain) has(t int) bool { return t >= 1 && t <= len(p.nodes) }

// parts: of a node, as far as its row has them, and the fields beyond them.
func (r row) parts3(n api.Node) ([]int, []int) {
	all := []int{n.A, n.B, n.C}
	return all[:len(r.parts)], all[len(r.parts):]
}

func (p *plain) make(n api.Node) (int, api.Errno) {
	if e := p.refusal(n); e != api.OK {
		return 0, e
	}
	for i, m := range p.nodes {
		if m == n {
			return i + 1, api.OK
		}
	}
	if p.limit > 0 && len(p.nodes) >= p.limit {
		return 0, api.ErrSize
	}
	p.nodes = append(p.nodes, n)
	return len(p.nodes), api.OK
}

func (p *plain) refusal(n api.Node) api.Errno {
	if n.Op < 1 || n.Op > 33 {
		return api.ErrOp
	}
	if n.W < 0 || n.W > 64 {
		return api.ErrWidth
	}
	r := rows[n.Op-1]
	parts, others := r.parts3(n)
	for _, t := range parts {
		if !p.has(t) {
			return api.ErrTerm
		}
	}
	if slices.ContainsFunc(others, func(t int) bool { return t != 0 }) ||
		n.Num != 0 && r.word != "const" && r.word != "slice" || n.Name != "" && r.word != "var" {
		return api.ErrArg
	}
	var sorts []int
	for i, t := range parts {
		w := p.nodes[t-1].W
		if r.parts[i] == 't' && w != 0 || r.parts[i] == 'w' && w == 0 {
			return api.ErrSort
		}
		sorts = append(sorts, w)
	}
	if k := len(sorts); r.alike && sorts[k-1] != sorts[k-2] {
		return api.ErrSort
	}
	if !plainWidth(r, n, sorts) {
		return api.ErrWidth
	}
	if r.word == "var" {
		for _, m := range p.nodes {
			if m.Op == api.OpVar && m.Name == n.Name && m.W != n.W {
				return api.ErrName
			}
		}
		if !bits.Name(n.Name) {
			return api.ErrName
		}
	}
	return api.OK
}

// plainWidth: is W, and Num with it, as the row says?
func plainWidth(r row, n api.Node, sorts []int) bool {
	num := new(big.Int).SetUint64(n.Num)
	switch r.width {
	case "0":
		return n.W == 0
	case "1 to 64":
		return n.W >= 1 && num.BitLen() <= n.W
	case "0 to 64":
		return true
	case "that of A":
		return n.W == sorts[0]
	case "that of B":
		return n.W == sorts[1]
	case "that of A, a power of two":
		return n.W == sorts[0] && slices.Contains([]int{1, 2, 4, 8, 16, 32, 64}, n.W)
	case "that of A + that of B":
		return n.W == sorts[0]+sorts[1] && sorts[0]+sorts[1] <= 64
	case "1 or more":
		end := num.Add(num, big.NewInt(int64(n.W)))
		return n.W >= 1 && end.Cmp(big.NewInt(int64(sorts[0]))) <= 0
	}
	return n.W >= sorts[0]
}

// meant: the W that the table gives where parts tell it.
func (p *plain) meant(n api.Node) api.Node {
	r := rows[n.Op-1]
	parts, _ := r.parts3(n)
	for _, t := range parts {
		if !p.has(t) {
			return n
		}
	}
	switch r.width {
	case "that of A", "that of A, a power of two":
		n.W = p.nodes[n.A-1].W
	case "that of B":
		n.W = p.nodes[n.B-1].W
	case "that of A + that of B":
		if sum := p.nodes[n.A-1].W + p.nodes[n.B-1].W; sum <= 64 {
			n.W = sum
		}
	}
	return n
}

// order: by calls within one another.
func (p *plain) order(roots ...int) ([]int, api.Errno) {
	var order []int
	var visit func(t int)
	visit = func(t int) {
		if t == 0 || slices.Contains(order, t) {
			return
		}
		n := p.nodes[t-1]
		visit(n.A)
		visit(n.B)
		visit(n.C)
		order = append(order, t)
	}
	for _, t := range roots {
		if !p.has(t) {
			return nil, api.ErrTerm
		}
	}
	for _, t := range roots {
		visit(t)
	}
	return order, api.OK
}

func (p *plain) dump(roots ...int) (string, api.Errno) {
	order, e := p.order(roots...)
	if e != api.OK {
		return "", e
	}
	text := ""
	line := func(t int) string { return fmt.Sprintf(" %d", slices.Index(order, t)+1) }
	for i, t := range order {
		n := p.nodes[t-1]
		r := rows[n.Op-1]
		text += fmt.Sprintf("%d %s", i+1, r.word)
		parts, _ := r.parts3(n)
		switch r.word {
		case "const":
			text += fmt.Sprintf(" %d %s", n.W, bits.Text(n.Num))
		case "var":
			text += fmt.Sprintf(" %s %d", n.Name, n.W)
		case "slice":
			text += fmt.Sprintf("%s %d %d", line(n.A), n.Num, n.W)
		case "zext", "sext":
			text += fmt.Sprintf("%s %d", line(n.A), n.W)
		default:
			for _, part := range parts {
				text += line(part)
			}
		}
		text += "\n"
	}
	text += "roots"
	for _, t := range roots {
		text += line(t)
	}
	return text + "\n", api.OK
}

// plainLoad: what Load answers, with a plain store.
func plainLoad(text string, limit int) (*plain, []int, int, api.Errno) {
	if limit < 0 {
		return nil, nil, 0, api.ErrArg
	}
	lines := strings.Split(text, "\n")
	if lines[len(lines)-1] == "" {
		lines = lines[:len(lines)-1]
	}
	p := &plain{limit: limit}
	var terms []int
	for i, line := range lines {
		words := slices.DeleteFunc(strings.Split(line, " "), func(w string) bool { return w == "" })
		if len(words) > 0 && words[0] == "roots" {
			roots := []int{}
			for _, w := range words[1:] {
				n, e := plainPart(w, terms)
				if e != api.OK {
					return nil, nil, i + 1, e
				}
				roots = append(roots, n)
			}
			if i+1 < len(lines) {
				return nil, nil, i + 2, api.ErrText
			}
			return p, roots, 0, api.OK
		}
		t, e := plainLine(p, words, terms)
		if e != api.OK {
			return nil, nil, i + 1, e
		}
		terms = append(terms, t)
	}
	return nil, nil, len(lines) + 1, api.ErrText
}

func plainNumber(w string, end uint64) (uint64, api.Errno) {
	x, e := bits.Number(w)
	if e != api.OK || x > end {
		return 0, api.ErrText
	}
	return x, api.OK
}

func plainPart(w string, terms []int) (int, api.Errno) {
	x, e := plainNumber(w, math.MaxInt32)
	if e != api.OK || x < 1 || x > uint64(len(terms)) {
		return 0, api.ErrText
	}
	return terms[x-1], api.OK
}

// plainLine: the term of a line's words: each of them by a letter of a form.
func plainLine(p *plain, words []string, terms []int) (int, api.Errno) {
	if len(words) < 2 {
		return 0, api.ErrText
	}
	at, e := plainNumber(words[0], math.MaxInt32)
	op := slices.IndexFunc(rows, func(r row) bool { return r.word == words[1] })
	if e != api.OK || at != uint64(len(terms)+1) || op < 0 {
		return 0, api.ErrText
	}
	form := strings.Repeat("p", len(rows[op].parts))
	switch rows[op].word {
	case "const":
		form = "Wc"
	case "var":
		form = "vW"
	case "slice":
		form = "pnW"
	case "zext", "sext":
		form = "pW"
	}
	if len(words) != 2+len(form) {
		return 0, api.ErrText
	}
	n := api.Node{Op: op + 1}
	var parts [3]int
	for i, letter := range form {
		var x uint64
		var e api.Errno
		switch w := words[2+i]; letter {
		case 'p':
			parts[i], e = plainPart(w, terms)
		case 'W':
			x, e = plainNumber(w, math.MaxInt32)
			n.W = int(x)
		case 'n':
			n.Num, e = plainNumber(w, math.MaxInt32)
		case 'c':
			n.Num, e = plainNumber(w, math.MaxUint64)
		case 'v':
			n.Name = w
		}
		if e != api.OK {
			return 0, e
		}
	}
	n.A, n.B, n.C = parts[0], parts[1], parts[2]
	if strings.Trim(form, "p") == "" {
		n = p.meant(n)
	}
	return p.make(n)
}

// empty: a store without a term.
func empty(t *testing.T, limit int) *Store {
	t.Helper()
	s, e := New(limit)
	if s == nil || e != api.OK {
		t.Fatalf("New(%d): %v", limit, e)
	}
	return s
}

// put makes nodes that must become the next terms, one behind the other.
func put(t *testing.T, s *Store, nodes ...api.Node) {
	t.Helper()
	for _, n := range nodes {
		want := s.Len() + 1
		if got, e := s.Make(n); got != want || e != api.OK {
			t.Fatalf("Make(%+v) = %d %v, not %d", n, got, e, want)
		}
	}
}

// shown: all that can be seen of a store.
func shown(s *Store) string {
	var b strings.Builder
	for i := range s.Len() {
		n, e := s.Node(i + 1)
		fmt.Fprintln(&b, n, e)
	}
	n, e := s.Node(s.Len() + 1)
	fmt.Fprintln(&b, n, e, s.Len())
	return b.String()
}

// answer: of a call that tells a term.
type answer struct {
	t int
	e api.Errno
}

func told(t int, e api.Errno) answer { return answer{t, e} }

func (a answer) String() string { return strconv.Itoa(a.t) + " (" + a.e.Error() + ")" }

// wantSame holds what a call tells against what it must.
func wantSame(t *testing.T, what any, got, want answer) {
	t.Helper()
	if got != want {
		t.Errorf("%+v: %v, not %v", what, got, want)
	}
}

// word, variable: nodes of leaves.
func word(w int, x uint64) api.Node { return api.Node{Op: api.OpConst, W: w, Num: x} }

func variable(name string, w int) api.Node { return api.Node{Op: api.OpVar, W: w, Name: name} }
