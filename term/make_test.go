package term

import (
	"fmt"
	"math"
	"slices"
	"strings"
	"testing"

	"cadence/api"
)

func TestNew(t *testing.T) {
	for _, limit := range []int{-1, -2, math.MinInt} {
		if s, e := New(limit); s != nil || e != api.ErrArg {
			t.Errorf("New(%d): %v %v", limit, s, e)
		}
	}
	for _, limit := range []int{0, 1, 2, math.MaxInt} {
		s := empty(t, limit)
		if s.Len() != 0 {
			t.Errorf("New(%d) has %d terms", limit, s.Len())
		}
		if n, e := s.Node(1); n != (api.Node{}) || e != api.ErrTerm {
			t.Errorf("New(%d): the term 1 is %v %v", limit, n, e)
		}
	}
}

// TestLimit: a store takes as many terms as it may and no more; what is there it tells further on.
func TestLimit(t *testing.T) {
	for _, limit := range []int{1, 2, 3, 70} {
		s := empty(t, limit)
		for i := range limit {
			wantSame(t, i, told(s.Const(64, uint64(i))), answer{i + 1, api.OK})
		}
		for range 2 {
			wantSame(t, "one more", told(s.Const(64, uint64(limit))), answer{0, api.ErrSize})
			wantSame(t, "a variable more", told(s.Var("k", 8)), answer{0, api.ErrSize})
			wantSame(t, "one that is there", told(s.Const(64, uint64(limit-1))), answer{limit, api.OK})
		}
		// A variable that was refused is none: its name is free for another width.
		wantSame(t, "a variable of another width", told(s.Var("k", 4)), answer{0, api.ErrSize})
		wantSame(t, "wrong ahead of full", told(s.Const(65, 0)), answer{0, api.ErrWidth})
		wantSame(t, "no name ahead of full", told(s.Var("", 4)), answer{0, api.ErrName})
		if s.Len() != limit {
			t.Errorf("limit %d: %d terms", limit, s.Len())
		}
	}
	s := empty(t, 0)
	for i := range 100000 {
		if n, e := s.Const(64, uint64(i)); n != i+1 || e != api.OK {
			t.Fatal(n, e)
		}
	}
}

// TestExamples: those of the chapter.
func TestExamples(t *testing.T) {
	s := empty(t, 0)
	wantSame(t, "k", told(s.Var("k", 8)), answer{1, api.OK})
	wantSame(t, "3", told(s.Const(8, 3)), answer{2, api.OK})
	wantSame(t, "add", told(s.Bin(api.OpAdd, 1, 2)), answer{3, api.OK})
	wantSame(t, "again", told(s.Bin(api.OpAdd, 1, 2)), answer{3, api.OK})
	wantSame(t, "turned", told(s.Bin(api.OpAdd, 2, 1)), answer{4, api.OK})
	wantSame(t, "k of 4", told(s.Var("k", 4)), answer{0, api.ErrName})
	wantSame(t, "1 of 4", told(s.Var("1", 4)), answer{0, api.ErrName})
	if s.Len() != 4 {
		t.Error(s.Len())
	}
	wantSame(t, "eq", told(s.Bin(api.OpEq, 3, 3)), answer{5, api.OK})
	wantSame(t, "and", told(s.Bin(api.OpAnd, 5, 3)), answer{0, api.ErrSort})
	wantSame(t, "not", told(s.Un(api.OpNot, 9)), answer{0, api.ErrTerm})
	wantSame(t, "const", told(s.Bin(api.OpConst, 1, 2)), answer{0, api.ErrOp})
	wantSame(t, "slice", told(s.Slice(3, 6, 4)), answer{0, api.ErrWidth})
	wantSame(t, "const", told(s.Const(65, 0)), answer{0, api.ErrWidth})
	wantSame(t, "const", told(s.Make(word(4, 16))), answer{0, api.ErrWidth})
	wantSame(t, "not", told(s.Make(api.Node{Op: api.OpNot, A: 5, B: 1})), answer{0, api.ErrArg})
	if n, e := s.Node(5); n != (api.Node{Op: api.OpEq, A: 3, B: 3}) || e != api.OK {
		t.Error(n, e)
	}
	if order, e := s.Order(5); !slices.Equal(order, []int{1, 2, 3, 5}) || e != api.OK {
		t.Error(order, e)
	}
	text := "1 var k 8\n2 const 8 3\n3 add 1 2\n4 eq 3 3\nroots 4\n"
	if d, e := s.Dump(5); d != text || e != api.OK {
		t.Errorf("%q %v", d, e)
	}
}

// leaves: a store with a truth and words of several widths, and the same one in plain; both full, so that nothing changes.
func leaves(t *testing.T) (*Store, *plain) {
	s, p := empty(t, 9), &plain{limit: 9}
	nodes := []api.Node{
		variable("t", 0), variable("k", 8), word(8, 3), variable("h", 3), word(4, 1),
		variable("g", 60), word(64, 1<<63), word(1, 1), {Op: api.OpFalse},
	}
	for _, n := range nodes {
		put(t, s, n)
		p.make(n)
	}
	return s, p
}

// TestMakeAll holds Make against the table, for all nodes of some fields.
func TestMakeAll(t *testing.T) {
	s, p := leaves(t)
	before := shown(s)
	seen := map[string]int{}
	for op := -1; op <= 35; op++ {
		for _, w := range []int{-1, 0, 1, 3, 4, 8, 11, 64, 65} {
			for _, parts := range threeOf(0, 1, 2, 4, 5, 6, 7) {
				for _, num := range []uint64{0, 1, 7, 8, math.MaxUint64} {
					for _, name := range []string{"", "k", "new"} {
						n := api.Node{Op: op, W: w, A: parts[0], B: parts[1], C: parts[2], Num: num, Name: name}
						want, e := p.make(n)
						got, bad := s.Make(n)
						if got != want || bad != e {
							t.Fatalf("%+v: %d %v, not %d %v", n, got, bad, want, e)
						}
						if e == api.OK {
							e = api.ErrSize // it is right, and there
						}
						seen[fmt.Sprint(op, " ", e)]++
					}
				}
			}
		}
	}
	for op := 1; op <= 33; op++ {
		for _, e := range []api.Errno{api.ErrSize, api.ErrArg, api.ErrWidth} {
			if seen[fmt.Sprint(op, " ", e)] == 0 {
				t.Errorf("no node of %d came to %v", op, e)
			}
		}
	}
	if shown(s) != before {
		t.Error("a refused call has changed the store")
	}
}

// threeOf: all lists of three of some numbers.
func threeOf(of ...int) [][3]int {
	var all [][3]int
	for _, a := range of {
		for _, b := range of {
			for _, c := range of {
				all = append(all, [3]int{a, b, c})
			}
		}
	}
	return all
}

// oneOfEach: a right node of each operation, over the terms of leaves.
func oneOfEach() []api.Node {
	nodes := make([]api.Node, len(rows))
	for i, r := range rows {
		n := api.Node{Op: r.op}
		if strings.HasPrefix(r.parts, "w") || strings.HasPrefix(r.parts, "x") {
			n.A, n.W = 2, 8
		}
		if strings.HasPrefix(r.parts, "t") {
			n.A = 1
		}
		if len(r.parts) > 1 {
			n.B = n.A
		}
		if len(r.parts) > 2 {
			n.B, n.C, n.W = 2, 3, 8
		}
		switch r.width {
		case "0":
			n.W = 0
		case "1 to 64":
			n.W, n.Num = 8, 77
		case "0 to 64":
			n.W, n.Name = 8, "fresh"
		case "that of A + that of B":
			n.W = 16
		case "1 or more":
			n.W, n.Num = 3, 5
		case "not below A's":
			n.W = 9
		}
		nodes[i] = n
	}
	return nodes
}

// TestRows: each operation is made, is found again, and each field that it has not got is refused.
func TestRows(t *testing.T) {
	full, _ := leaves(t)
	s := empty(t, 0)
	for i := range full.Len() {
		n, _ := full.Node(i + 1)
		put(t, s, n)
	}
	for _, n := range oneOfEach() {
		if n.Op == api.OpFalse {
			continue // it is there already
		}
		put(t, s, n)
		wantSame(t, n, told(s.Make(n)), answer{s.Len(), api.OK})
		if m, e := s.Node(s.Len()); m != n || e != api.OK {
			t.Errorf("%+v became %+v %v", n, m, e)
		}
	}
	before := shown(s)
	for _, n := range oneOfEach() {
		r := rows[n.Op-1]
		for name, m := range oneFieldMore(n, r) {
			wantSame(t, name+" "+r.word, told(s.Make(m)), answer{0, api.ErrArg})
		}
		for w := -1; w <= 65; w++ {
			m := n
			m.W = w
			want := api.ErrWidth
			if w == n.W || r.width == "0 to 64" && w >= 0 && w <= 64 || r.width == "not below A's" && w >= 8 && w <= 64 ||
				r.width == "1 to 64" && w >= 7 && w <= 64 || r.width == "1 or more" && w >= 1 && w <= 3 {
				continue
			}
			wantSame(t, m, told(s.Make(m)), answer{0, want})
		}
	}
	if shown(s) != before {
		t.Error("a refused call has changed the store")
	}
}

// oneFieldMore: a right node with one of the fields set that its operation has not got.
func oneFieldMore(n api.Node, r row) map[string]api.Node {
	more := map[string]api.Node{}
	set := func(name string, change func(m *api.Node)) {
		m := n
		change(&m)
		more[name] = m
	}
	for _, part := range []int{-1, 1, 2, 1000, math.MinInt} {
		if len(r.parts) < 1 {
			set(fmt.Sprint("A ", part), func(m *api.Node) { m.A = part })
		}
		if len(r.parts) < 2 {
			set(fmt.Sprint("B ", part), func(m *api.Node) { m.B = part })
		}
		if len(r.parts) < 3 {
			set(fmt.Sprint("C ", part), func(m *api.Node) { m.C = part })
		}
	}
	if r.word != "const" && r.word != "slice" {
		set("Num 1", func(m *api.Node) { m.Num = 1 })
		set("the greatest Num", func(m *api.Node) { m.Num = math.MaxUint64 })
	}
	if r.word != "var" {
		set("a name", func(m *api.Node) { m.Name = "k" })
		set("no name", func(m *api.Node) { m.Name = " " })
	}
	return more
}

// TestNoOperation: numbers beside the operations.
func TestNoOperation(t *testing.T) {
	s, _ := leaves(t)
	for _, op := range []int{0, -1, 34, 35, math.MinInt, math.MaxInt, 1 << 32, 1<<32 + 1} {
		wantSame(t, op, told(s.Make(api.Node{Op: op})), answer{0, api.ErrOp})
		// It comes ahead of whatever else is wrong.
		wantSame(t, op, told(s.Make(api.Node{Op: op, W: -1, A: -1, B: -1, C: -1, Num: 1, Name: "?"})), answer{0, api.ErrOp})
	}
}

// TestParts: each part of each operation that is no term.
func TestParts(t *testing.T) {
	s, _ := leaves(t)
	none := []int{0, -1, -2, s.Len() + 1, s.Len() + 2, math.MaxInt, math.MinInt, 1<<32 + 1}
	for _, n := range oneOfEach() {
		for i := range rows[n.Op-1].parts {
			for _, part := range none {
				m := n
				*[]*int{&m.A, &m.B, &m.C}[i] = part
				wantSame(t, m, told(s.Make(m)), answer{0, api.ErrTerm})
			}
		}
	}
	// The next number is no term while a term is made, and is one behind that.
	x := empty(t, 0)
	put(t, x, variable("t", 0))
	wantSame(t, "not 2", told(x.Un(api.OpNot, 2)), answer{0, api.ErrTerm})
	wantSame(t, "not 1", told(x.Un(api.OpNot, 1)), answer{2, api.OK})
	wantSame(t, "not 2", told(x.Un(api.OpNot, 2)), answer{3, api.OK})
}

// TestErrorOrder: where two errors apply, the one that P702 names first.
func TestErrorOrder(t *testing.T) {
	s, _ := leaves(t)
	const truth, byte8, small3, none = 1, 2, 4, 99
	cases := []struct {
		what string
		n    api.Node
		want api.Errno
	}{
		{"no operation, no width", api.Node{Op: 34, W: 65}, api.ErrOp},
		{"no width, no term", api.Node{Op: api.OpCom, W: 65, A: none}, api.ErrWidth},
		{"no width, another field", api.Node{Op: api.OpCom, W: -1, A: byte8, Num: 1}, api.ErrWidth},
		{"no width, no name", api.Node{Op: api.OpVar, W: 65, Name: "?"}, api.ErrWidth},
		{"no term, another field", api.Node{Op: api.OpCom, W: 8, A: none, B: 1}, api.ErrTerm},
		{"no term, another sort", api.Node{Op: api.OpAnd, A: byte8, B: none}, api.ErrTerm},
		{"no term, another width", api.Node{Op: api.OpAdd, W: 4, A: byte8, B: none}, api.ErrTerm},
		{"another field, another sort", api.Node{Op: api.OpNot, A: byte8, C: 1}, api.ErrArg},
		{"another field, another width", api.Node{Op: api.OpCom, W: 4, A: byte8, C: 1}, api.ErrArg},
		{"another field of a truth, a width", api.Node{Op: api.OpTrue, W: 4, Num: 1}, api.ErrArg},
		{"another field of a constant, no width", api.Node{Op: api.OpConst, W: 0, Name: "k"}, api.ErrArg},
		{"another field, no name", api.Node{Op: api.OpVar, W: 8, Name: "?", Num: 1}, api.ErrArg},
		{"another sort, another width", api.Node{Op: api.OpAdd, W: 4, A: byte8, B: small3}, api.ErrSort},
		{"another sort, no power of two", api.Node{Op: api.OpShl, W: 3, A: small3, B: byte8}, api.ErrSort},
		{"slice of a truth, beyond it", api.Node{Op: api.OpSlice, W: 4, A: truth, Num: 9}, api.ErrSort},
		{"a wide word, then a name", api.Node{Op: api.OpConst, W: 4, Num: 16}, api.ErrWidth},
		{"a truth's width, full", api.Node{Op: api.OpTrue, W: 1}, api.ErrWidth},
		{"a name twice, full", api.Node{Op: api.OpVar, W: 4, Name: "k"}, api.ErrName},
		{"no name, full", api.Node{Op: api.OpVar, W: 4, Name: "k "}, api.ErrName},
		{"right, full", api.Node{Op: api.OpVar, W: 4, Name: "kk"}, api.ErrSize},
	}
	for _, c := range cases {
		wantSame(t, c.what, told(s.Make(c.n)), answer{0, c.want})
	}
}

// TestWords: a constant's word that just fits, and just not.
func TestWords(t *testing.T) {
	s := empty(t, 0)
	for w := 1; w <= 64; w++ {
		most := uint64(math.MaxUint64) >> (64 - w)
		put(t, s, word(w, most))
		if w < 64 {
			wantSame(t, w, told(s.Make(word(w, most+1))), answer{0, api.ErrWidth})
			wantSame(t, w, told(s.Make(word(w, math.MaxUint64))), answer{0, api.ErrWidth})
		}
		put(t, s, word(w, 0))
	}
	for _, w := range []int{-1, 0, 65, math.MaxInt, math.MinInt} {
		wantSame(t, w, told(s.Make(word(w, 0))), answer{0, api.ErrWidth})
	}
}

// TestShifts: of all widths, only the powers of two.
func TestShifts(t *testing.T) {
	s := empty(t, 0)
	for w := 1; w <= 64; w++ {
		n, _ := s.Const(w, 1)
		for op := api.OpShl; op <= api.OpRor; op++ {
			got, e := s.Bin(op, n, n)
			if right := slices.Contains([]int{1, 2, 4, 8, 16, 32, 64}, w); right && (got != s.Len() || e != api.OK) || !right && (got != 0 || e != api.ErrWidth) {
				t.Errorf("%d of %d bits: %d %v", op, w, got, e)
			}
		}
	}
}

// TestCats: of all sums of widths.
func TestCats(t *testing.T) {
	s := empty(t, 0)
	for w := 1; w <= 64; w++ {
		put(t, s, word(w, 1))
	}
	for a := 1; a <= 64; a++ {
		for b := 1; b <= 64; b++ {
			got, e := s.Bin(api.OpCat, a, b)
			if a+b > 64 {
				wantSame(t, []int{a, b}, told(got, e), answer{0, api.ErrWidth})
				for _, w := range []int{0, 1, 64, (a + b) % 64} {
					wantSame(t, w, told(s.Make(api.Node{Op: api.OpCat, W: w, A: a, B: b})), answer{0, api.ErrWidth})
				}
				continue
			}
			wantSame(t, []int{a, b}, told(got, e), answer{s.Len(), api.OK})
			if n, _ := s.Node(got); n.W != a+b {
				t.Errorf("%d and %d are together %d", a, b, n.W)
			}
			wantSame(t, "one less", told(s.Make(api.Node{Op: api.OpCat, W: a + b - 1, A: a, B: b})), answer{0, api.ErrWidth})
		}
	}
}

// TestSlices: to the last bit and one beyond; a first bit so great that a sum would go around.
func TestSlices(t *testing.T) {
	s := empty(t, 0)
	for _, w := range []int{1, 2, 8, 63, 64} {
		a, _ := s.Const(w, 0)
		for n := 1; n <= 64; n++ {
			for from := uint64(0); from <= 66; from++ {
				got, e := s.Make(api.Node{Op: api.OpSlice, W: n, A: a, Num: from})
				if right := int(from)+n <= w; right != (e == api.OK) || right != (got > 0) || !right && e != api.ErrWidth {
					t.Fatalf("%d of %d from %d: %d %v", n, w, from, got, e)
				}
			}
			for back := uint64(0); back <= 130; back++ {
				wantSame(t, back, told(s.Make(api.Node{Op: api.OpSlice, W: n, A: a, Num: math.MaxUint64 - back})), answer{0, api.ErrWidth})
				wantSame(t, back, told(s.Make(api.Node{Op: api.OpSlice, W: n, A: a, Num: 1<<63 - 65 + back})), answer{0, api.ErrWidth})
				wantSame(t, back, told(s.Make(api.Node{Op: api.OpSlice, W: n, A: a, Num: 1<<32 - 65 + back})), answer{0, api.ErrWidth})
			}
		}
		wantSame(t, w, told(s.Make(api.Node{Op: api.OpSlice, W: 0, A: a})), answer{0, api.ErrWidth})
	}
}

// TestNames: what is no name, and one name with two widths.
func TestNames(t *testing.T) {
	s := empty(t, 0)
	for _, name := range []string{"", " ", "1", "1a", "a b", "a ", " a", "é", "a\n", "a\x00", "-", strings.Repeat("a", 25), strings.Repeat("a", 1<<20)} {
		wantSame(t, name, told(s.Var(name, 8)), answer{0, api.ErrName})
	}
	long := strings.Repeat("a", 24)
	for i, name := range []string{"a", "_", "Z9", "roots", "true", long, "A"} {
		wantSame(t, name, told(s.Var(name, i*10)), answer{i + 1, api.OK})
		for w := 0; w <= 64; w++ {
			want := answer{0, api.ErrName}
			if w == i*10 {
				want = answer{i + 1, api.OK}
			}
			wantSame(t, name, told(s.Var(name, w)), want)
		}
	}
	if s.Len() != 7 {
		t.Error(s.Len())
	}
}

func TestNode(t *testing.T) {
	s, p := leaves(t)
	for _, n := range []int{0, -1, s.Len() + 1, math.MaxInt, math.MinInt, 1<<32 + 1} {
		if got, e := s.Node(n); got != (api.Node{}) || e != api.ErrTerm {
			t.Errorf("the node of %d: %v %v", n, got, e)
		}
	}
	for i, want := range p.nodes {
		if got, e := s.Node(i + 1); got != want || e != api.OK {
			t.Errorf("the node of %d: %v %v", i+1, got, e)
		}
	}
	if s.Len() != len(p.nodes) {
		t.Error(s.Len())
	}
}

// TestZeroStore: a store that New did not make, as it may come in to other layers, is as one without a limit.
func TestZeroStore(t *testing.T) {
	s := new(Store)
	if order, e := s.Order(); len(order) > 0 || e != api.OK || s.Len() != 0 {
		t.Error(order, e, s.Len())
	}
	put(t, s, variable("k", 8), word(8, 3), api.Node{Op: api.OpAdd, W: 8, A: 1, B: 2})
	wantSame(t, "again", told(s.Var("k", 8)), answer{1, api.OK})
	wantSame(t, "another width", told(s.Var("k", 4)), answer{0, api.ErrName})
}
