package simp

import (
	"fmt"
	"math/big"
	"strings"

	"cadence/api"
	"cadence/term"
)

// The chapter's table, read by patterns over trees: a plain maker to hold the rules against.

// table: a rule a line: its name, what it fits, what that becomes, and, behind "if", what must hold of numbers.
//
// In what it fits k, k1, k2 are constants, p one that is 2 to the n-th, n above 0, other letters any terms, the same ones where they stand twice. Slices tell first bit and width there, if they are not the node itself (then: num and W). wx is the width of x; of constants their names are their words, too. !  is the word, or the truth, of constants; #.. the constant of W bits that is so much.
const table = `
N1 (not T) F
N1 (not F) T
N2 (not (not x)) x
A1 (and F b) F
A1 (and a F) F
A2 (and T b) b
A3 (and a T) a
A4 (and a a) a
A5 (and (not x) x) F
A5 (and x (not x)) F
O1 (or T b) T
O1 (or a T) T
O2 (or F b) b
O3 (or a F) a
O4 (or a a) a
O5 (or (not x) x) T
O5 (or x (not x)) T
X1 (xor F b) b
X2 (xor T b) (not b)
X3 (xor a F) a
X4 (xor a T) (not a)
X5 (xor a a) F
X6 (xor (not x) x) T
X6 (xor x (not x)) T
X7 (xor (not x) b) (not (xor x b))
X8 (xor a (not x)) (not (xor a x))
E1 (eq a a) T
E2 (eq k k1) !
E2 (eq T F) F
E2 (eq F T) F
E3 (eq k b) (eq b k)
E3 (eq T b) (eq b T)
E3 (eq F b) (eq b F)
E4 (eq a T) a
E5 (eq a F) (not a)
E6 (eq (not x) x) F
E6 (eq x (not x)) F
E7 (eq (com x) k) (eq x (com k))
E8 (eq (neg x) k) (eq x (neg k))
E9 (eq (add x k1) k) (eq x (sub k k1))
E10 (eq (bxor x k1) k) (eq x (bxor k k1))
E11 (eq (rol x k1) k) (eq x (ror k k1))
E12 (eq (sub x y) 0) (eq x y)
E12 (eq (bxor x y) 0) (eq x y)
E13 (eq (zext x) k) (eq x (slice k 0 wx)) if k bits wx = 0
E13 (eq (zext x) k) F
E14 (eq (sext x) k) (eq x (slice k 0 wx)) if k bits wx-1 = 0
E14 (eq (sext x) k) (eq x (slice k 0 wx)) if k bits wx-1 = ones
E14 (eq (sext x) k) F
E15 (eq (ite x k k) k) T
E15 (eq (ite x k k2) k) x
E15 (eq (ite x k1 k) k) (not x)
E15 (eq (ite x k1 k2) k) F
E16 (eq (cat x y) k) (and (eq x (slice k wy wx)) (eq y (slice k 0 wy)))
U1 (ult a a) F
U2 (ult k k1) !
U3 (ult a 0) F
U4 (ult 0 b) (not (eq b 0))
U5 (ult a 1) (eq a 0)
U6 (ult ones b) F
U7 (ult a ones) (not (eq a ones))
-- (ule a b) (not (ult b a))
L1 (slt a a) F
L2 (slt k k1) !
-- (sle a b) (not (slt b a))
I1 (ite T b c) b
I1 (ite F b c) c
I2 (ite a b b) b
I3 (ite (not x) b c) (ite x c b)
I4 (ite a T c) (or a c)
I5 (ite a F c) (and (not a) c)
I6 (ite a b T) (or (not a) b)
I7 (ite a b F) (and a b)
I8 (ite a a c) (or a c)
I9 (ite a b a) (and a b)
I10 (ite a (ite a x y) c) (ite a x c)
I11 (ite a b (ite a x y)) (ite a b y)
C1 (com k) !
C1 (neg k) !
C2 (com (com x)) x
C2 (neg (neg x)) x
C3 (neg (sub x y)) (sub y x)
B1 (band k k1) !
B1 (bor k k1) !
B1 (bxor k k1) !
B1 (add k k1) !
B1 (sub k k1) !
B1 (mul k k1) !
B1 (div k k1) !
B1 (rem k k1) !
B1 (shl k k1) !
B1 (shr k k1) !
B1 (sar k k1) !
B1 (rol k k1) !
B1 (ror k k1) !
B1 (cat k k1) !
B2 (band k b) (band b k)
B2 (bor k b) (bor b k)
B2 (bxor k b) (bxor b k)
B2 (add k b) (add b k)
B2 (mul k b) (mul b k)
G1 (band a 0) 0
G2 (band a ones) a
G3 (band a a) a
G4 (band (com x) x) 0
G4 (band x (com x)) 0
G5 (band (band x k1) k) (band x (band k k1))
H1 (bor a 0) a
H2 (bor a ones) ones
H3 (bor a a) a
H4 (bor (com x) x) ones
H4 (bor x (com x)) ones
H5 (bor (bor x k1) k) (bor x (bor k k1))
K1 (bxor a 0) a
K2 (bxor a ones) (com a)
K3 (bxor a a) 0
K4 (bxor (com x) x) ones
K4 (bxor x (com x)) ones
K5 (bxor (bxor x k1) k) (bxor x (bxor k k1))
K6 (bxor (bxor x b) b) x
K7 (bxor (bxor b y) b) y
K8 (bxor a (bxor x a)) x
K9 (bxor a (bxor a y)) y
P1 (add a 0) a
P2 (add (add x k1) k) (add x (add k k1))
P3 (add a (neg x)) (sub a x)
P4 (add (neg x) b) (sub b x)
P5 (add (sub x b) b) x
P6 (add a (sub x a)) x
M1 (sub a 0) a
M2 (sub a a) 0
M3 (sub a k) (add a (neg k))
M4 (sub 0 b) (neg b)
M5 (sub (add x b) b) x
M6 (sub (add b y) b) y
M7 (sub a (neg x)) (add a x)
Q1 (mul a 0) 0
Q2 (mul a 1) a
Q3 (mul a ones) (neg a)
Q4 (mul a p) (shl a #n) if W power
Q5 (mul (mul x k1) k) (mul x (mul k k1))
D1 (div a 1) a
D2 (div a p) (shr a #n) if W power
R1 (rem a 1) 0
R2 (rem a p) (band a #p-1)
S1 (shl 0 b) 0
S1 (shr 0 b) 0
S1 (sar 0 b) 0
S1 (rol 0 b) 0
S1 (ror 0 b) 0
S2 (shl a k) (shl a #k%W) if k >= W
S2 (shr a k) (shr a #k%W) if k >= W
S2 (sar a k) (sar a #k%W) if k >= W
S2 (rol a k) (rol a #k%W) if k >= W
S2 (ror a k) (ror a #k%W) if k >= W
S3 (shl a 0) a
S3 (shr a 0) a
S3 (sar a 0) a
S3 (rol a 0) a
S3 (ror a 0) a
S4 (shl (shl x k1) k) (shl x #k+k1) if k1 < W and k+k1 < W
S4 (shl (shl x k1) k) 0 if k1 < W
S4 (shr (shr x k1) k) (shr x #k+k1) if k1 < W and k+k1 < W
S4 (shr (shr x k1) k) 0 if k1 < W
S5 (rol (rol x k1) k) (rol x #k+k1%W)
S6 (ror a k) (rol a #W-k)
T1 (cat 0 b) (zext b W)
T2 (cat (slice x g m) (slice x f n)) (slice x f m+n) if g = f+n
V1 (slice k) !
V2 (slice a) a if W = wa
V3 (slice (slice x f n)) (slice x f+num W)
V4 (slice (cat x y)) (slice y num W) if num+W <= wy
V5 (slice (cat x y)) (slice x num-wy W) if num >= wy
V6 (slice (zext x)) (slice x num W) if num+W <= wx
V7 (slice (zext x)) 0 if num >= wx
W1 (zext k) !
W1 (sext k) !
W2 (zext a) a if W = wa
W2 (sext a) a if W = wa
W3 (zext (zext x)) (zext x W)
W3 (sext (sext x)) (sext x W)
W4 (sext (zext x)) (zext x W) if wide
`

// tree: a term without a store; two are one term, if they have one text.
type tree struct {
	op, w int
	num   uint64
	name  string
	kids  []*tree
	text  string
	size  int
}

func newTree(op, w int, num uint64, name string, kids ...*tree) *tree {
	t := &tree{op, w, num, name, kids, "", 1}
	var b strings.Builder
	fmt.Fprint(&b, "(", words[op], " ", w, " ", num, name)
	for _, kid := range kids {
		b.WriteString(kid.text)
		t.size += kid.size
	}
	t.text = b.String() + ")"
	return t
}

// treeOf: of a term in a store.
func treeOf(s *term.Store, t int) *tree {
	n := nodeOf(s, t)
	var kids []*tree
	for _, part := range []int{n.A, n.B, n.C} {
		if part > 0 {
			kids = append(kids, treeOf(s, part))
		}
	}
	return newTree(n.Op, n.W, n.Num, n.Name, kids...)
}

// plainRule: a line of the table.
type plainRule struct {
	name     string
	fits, to *shape
	only     []string // what must hold
}

// shape: (word kids..), or a word alone.
type shape struct {
	word string
	kids []*shape
}

// plainMaker makes trees by the table.
type plainMaker struct {
	rules map[int][]plainRule
	fit   map[string]int // how often each rule did
}

func newPlainMaker() *plainMaker {
	m := &plainMaker{map[int][]plainRule{}, map[string]int{}}
	for _, line := range strings.Split(strings.TrimSpace(table), "\n") {
		name, line, _ := strings.Cut(line, " ")
		line, only, _ := strings.Cut(line, " if ")
		tokens := strings.Fields(strings.NewReplacer("(", " ( ", ")", " ) ").Replace(line))
		fits := shapeOf(&tokens)
		to := shapeOf(&tokens)
		if len(tokens) > 0 {
			panic(line)
		}
		r := plainRule{name: name, fits: fits, to: to}
		if only != "" {
			r.only = strings.Split(only, " and ")
		}
		op := opOf(fits.word)
		m.rules[op] = append(m.rules[op], r)
	}
	return m
}

func shapeOf(tokens *[]string) *shape {
	s := (*tokens)[0]
	*tokens = (*tokens)[1:]
	if s != "(" {
		return &shape{word: s}
	}
	all := &shape{word: (*tokens)[0]}
	*tokens = (*tokens)[1:]
	for (*tokens)[0] != ")" {
		all.kids = append(all.kids, shapeOf(tokens))
	}
	*tokens = (*tokens)[1:]
	return all
}

// bound: what the letters of a rule are.
type bound struct {
	trees   map[string]*tree
	numbers map[string]*big.Int
	root    *tree
}

func ofInt(n int) *big.Int { return big.NewInt(int64(n)) }

// make: what is made of a node whose parts are made.
func (m *plainMaker) make(n *tree) *tree {
	r, b := m.ruleOf(n)
	if r == nil {
		return n
	}
	m.fit[r.name]++
	return m.put(r.to, b)
}

// ruleOf: the first that fits; nil, if none does.
func (m *plainMaker) ruleOf(n *tree) (*plainRule, bound) {
	for _, r := range m.rules[n.op] {
		if b, fits := bind(r, n); fits {
			return &r, b
		}
	}
	return nil, bound{}
}

func bind(r plainRule, n *tree) (bound, bool) {
	b := bound{map[string]*tree{}, map[string]*big.Int{}, n}
	w := n.w
	if w == 0 {
		w = n.kids[0].w
	}
	b.numbers["W"], b.numbers["num"] = ofInt(w), new(big.Int).SetUint64(n.num)
	if !b.match(r.fits, n) {
		return b, false
	}
	for _, o := range r.only {
		if !b.holds(o) {
			return b, false
		}
	}
	return b, true
}

func (b bound) match(s *shape, n *tree) bool {
	if len(s.kids) == 0 {
		return b.matchLeaf(s.word, n)
	}
	if words[n.op] != s.word {
		return false
	}
	for i, kid := range n.kids {
		if !b.match(s.kids[i], kid) {
			return false
		}
	}
	if n.op == api.OpSlice && len(s.kids) == 3 {
		b.numbers[s.kids[1].word] = new(big.Int).SetUint64(n.num)
		b.numbers[s.kids[2].word] = ofInt(n.w)
	}
	return true
}

func (b bound) matchLeaf(name string, n *tree) bool {
	isConst := n.op == api.OpConst
	switch name {
	case "T":
		return n.op == api.OpTrue
	case "F":
		return n.op == api.OpFalse
	case "0":
		return isConst && n.num == 0
	case "1":
		return isConst && n.num == 1
	case "ones":
		return isConst && n.num == ^uint64(0)>>(64-n.w)
	case "k", "k1", "k2", "p":
		if !isConst {
			return false
		}
		b.numbers[name] = new(big.Int).SetUint64(n.num)
	}
	if name == "p" {
		power := n.num >= 2 && new(big.Int).SetUint64(n.num).TrailingZeroBits()+1 == uint(new(big.Int).SetUint64(n.num).BitLen())
		if !power {
			return false
		}
		b.numbers["n"] = ofInt(b.numbers["p"].BitLen() - 1)
	}
	b.numbers["w"+name] = ofInt(n.w)
	if was := b.trees[name]; was != nil {
		return was.text == n.text
	}
	b.trees[name] = n
	return true
}

// sum: of names and numbers with + and -, modulo another one, if there is a %.
func (b bound) sum(text string) *big.Int {
	if head, tail, found := strings.Cut(text, "%"); found {
		return new(big.Int).Mod(b.sum(head), b.sum(tail))
	}
	if i := strings.LastIndexAny(text, "+-"); i > 0 {
		left, right := b.sum(text[:i]), b.sum(text[i+1:])
		if text[i] == '-' {
			return new(big.Int).Sub(left, right)
		}
		return new(big.Int).Add(left, right)
	}
	if x := b.numbers[text]; x != nil {
		return x
	}
	x, ok := new(big.Int).SetString(text, 10)
	if !ok {
		panic(text)
	}
	return x
}

// holds: does what stands behind a rule's "if"?
func (b bound) holds(text string) bool {
	f := strings.Fields(text)
	switch {
	case text == "wide":
		return b.root.kids[0].w > b.trees["x"].w
	case f[1] == "power":
		w := int(b.sum(f[0]).Int64())
		return w&(w-1) == 0
	case f[1] == "bits": // k from a bit on
		from := uint(b.sum(f[2]).Uint64())
		above := new(big.Int).Rsh(b.numbers["k"], from)
		if f[4] == "0" {
			return above.Sign() == 0
		}
		return above.BitLen() == int(b.numbers["W"].Int64())-int(from) && new(big.Int).Add(above, big.NewInt(1)).TrailingZeroBits() == uint(above.BitLen())
	}
	c := b.sum(f[0]).Cmp(b.sum(f[2]))
	switch f[1] {
	case "<":
		return c < 0
	case ">=":
		return c >= 0
	case "<=":
		return c <= 0
	case "=":
		return c == 0
	}
	panic(text)
}

// put: what a rule names, made, its parts ahead of it.
func (m *plainMaker) put(s *shape, b bound) *tree {
	w := int(b.numbers["W"].Int64())
	if len(s.kids) == 0 {
		switch {
		case s.word == "!":
			return plainWordOf(b.root)
		case s.word == "T":
			return newTree(api.OpTrue, 0, 0, "")
		case s.word == "F":
			return newTree(api.OpFalse, 0, 0, "")
		case s.word == "ones":
			return newTree(api.OpConst, w, ^uint64(0)>>(64-w), "")
		case s.word == "0":
			return newTree(api.OpConst, w, 0, "")
		case s.word[0] == '#':
			x := b.sum(s.word[1:])
			if x.Sign() < 0 || x.BitLen() > w {
				panic(s.word)
			}
			return newTree(api.OpConst, w, x.Uint64(), "")
		}
		return b.trees[s.word]
	}
	op := opOf(s.word)
	kids := []*tree{m.put(s.kids[0], b)}
	num := uint64(0)
	switch op {
	case api.OpSlice:
		num, w = b.sum(s.kids[1].word).Uint64(), int(b.sum(s.kids[2].word).Int64())
	case api.OpZext, api.OpSext:
		w = int(b.sum(s.kids[1].word).Int64())
	default:
		for _, kid := range s.kids[1:] {
			kids = append(kids, m.put(kid, b))
		}
		w = kids[len(kids)-1].w
		if op < api.OpIte {
			w = 0
		}
	}
	return m.make(newTree(op, w, num, "", kids...))
}
