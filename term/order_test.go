package term

import (
	"fmt"
	"math"
	"slices"
	"strings"
	"testing"

	"cadence/api"
)

// shared: k, h, k + h, h + k, (k + h) * (k + h), t, ite t (k + h) (h + k), 3: terms that have parts in common.
func shared(t *testing.T) *Store {
	s := empty(t, 0)
	put(t, s, variable("k", 8), variable("h", 8),
		api.Node{Op: api.OpAdd, W: 8, A: 1, B: 2}, api.Node{Op: api.OpAdd, W: 8, A: 2, B: 1},
		api.Node{Op: api.OpMul, W: 8, A: 3, B: 3}, variable("t", 0),
		api.Node{Op: api.OpIte, W: 8, A: 6, B: 3, C: 4}, word(8, 3))
	return s
}

func TestOrder(t *testing.T) {
	s := shared(t)
	cases := []struct {
		what  string
		roots []int
		want  []int
	}{
		{"no root", nil, nil},
		{"a leaf", []int{2}, []int{2}},
		{"a leaf twice", []int{2, 2}, []int{2}},
		{"a term", []int{3}, []int{1, 2, 3}},
		{"its parts turned", []int{4}, []int{2, 1, 4}},
		{"one part twice", []int{5}, []int{1, 2, 3, 5}},
		{"three parts", []int{7}, []int{6, 1, 2, 3, 4, 7}},
		{"roots out of order", []int{8, 7, 5}, []int{8, 6, 1, 2, 3, 4, 7, 5}},
		{"a root that another leads to, behind it", []int{5, 1, 3}, []int{1, 2, 3, 5}},
		{"a root that another leads to, ahead of it", []int{4, 5}, []int{2, 1, 4, 3, 5}},
		{"one root twice", []int{7, 7, 8, 7}, []int{6, 1, 2, 3, 4, 7, 8}},
	}
	for _, c := range cases {
		if got, e := s.Order(c.roots...); !slices.Equal(got, c.want) || e != api.OK {
			t.Errorf("%s: %v %v, not %v", c.what, got, e, c.want)
		}
	}
}

func TestOrderRefuses(t *testing.T) {
	s := shared(t)
	for _, none := range []int{0, -1, 9, 64, 10000, math.MaxInt, math.MinInt} {
		for _, roots := range [][]int{{none}, {1, none}, {none, 1}, {7, 7, none}} {
			if got, e := s.Order(roots...); got != nil || e != api.ErrTerm {
				t.Errorf("Order(%v): %v %v", roots, got, e)
			}
			if got, e := s.Dump(roots...); got != "" || e != api.ErrTerm {
				t.Errorf("Dump(%v): %q %v", roots, got, e)
			}
		}
	}
	if got, e := empty(t, 0).Order(1); got != nil || e != api.ErrTerm {
		t.Error(got, e)
	}
}

// deep: a store whose last term has so many others within one another, in its part A, B, or both.
func deep(t *testing.T, depth int, kind string) *Store {
	s := empty(t, 0)
	put(t, s, variable("k", 8))
	for i := 1; i <= depth; i++ {
		a, b := i, i
		switch kind {
		case "A":
			b = 1
		case "B":
			a = 1
		}
		if n, e := s.Bin(api.OpAdd, a, b); n != i+1 || e != api.OK {
			t.Fatal(n, e)
		}
	}
	return s
}

// TestDeep: terms so deep that calls within one another would not reach, or, written out, beyond all numbers.
func TestDeep(t *testing.T) {
	for _, c := range []struct {
		kind  string
		depth int
	}{{"A", 1 << 20}, {"B", 1 << 16}, {"both", 1 << 16}} {
		depth := c.depth
		s := deep(t, depth, c.kind)
		order, e := s.Order(depth + 1)
		if e != api.OK || len(order) != depth+1 {
			t.Fatal(len(order), e)
		}
		for i, n := range order {
			if n != i+1 {
				t.Fatalf("%d at %d", n, i)
			}
		}
		text, e := s.Dump(depth+1, depth+1)
		if e != api.OK || !strings.HasSuffix(text, fmt.Sprintf("\nroots %d %d\n", depth+1, depth+1)) {
			t.Fatal(len(text), e)
		}
		x, roots, line, e := Load(text, depth+1)
		if e != api.OK || line != 0 || !slices.Equal(roots, []int{depth + 1, depth + 1}) || x.Len() != depth+1 {
			t.Fatal(roots, line, e)
		}
		if again, e := x.Dump(roots...); again != text || e != api.OK {
			t.Error("another text")
		}
	}
}

func TestDump(t *testing.T) {
	s := shared(t)
	cases := []struct {
		what  string
		roots []int
		want  string
	}{
		{"no root", nil, "roots\n"},
		{"a leaf", []int{2}, "1 var h 8\nroots 1\n"},
		{"a leaf twice", []int{8, 8}, "1 const 8 3\nroots 1 1\n"},
		{"turned", []int{4}, "1 var h 8\n2 var k 8\n3 add 1 2\nroots 3\n"},
		{"shared", []int{5, 1}, "1 var k 8\n2 var h 8\n3 add 1 2\n4 mul 3 3\nroots 4 1\n"},
		{"out of order", []int{8, 3, 2}, "1 const 8 3\n2 var k 8\n3 var h 8\n4 add 2 3\nroots 1 4 3\n"},
		{"three parts", []int{7}, "1 var t 0\n2 var k 8\n3 var h 8\n4 add 2 3\n5 add 3 2\n6 ite 1 4 5\nroots 6\n"},
	}
	for _, c := range cases {
		if got, e := s.Dump(c.roots...); got != c.want || e != api.OK {
			t.Errorf("%s: %q %v, not %q", c.what, got, e, c.want)
		}
	}
}

// TestDumpRows: a line of each operation.
func TestDumpRows(t *testing.T) {
	full, _ := leaves(t)
	s := empty(t, 0)
	for i := range full.Len() {
		n, _ := full.Node(i + 1)
		put(t, s, n)
	}
	want := []string{
		"1 true", "1 false", "1 const 8 77", "1 var fresh 8", "2 not 1",
		"2 and 1 1", "2 or 1 1", "2 xor 1 1", "2 eq 1 1",
		"2 ult 1 1", "2 ule 1 1", "2 slt 1 1", "2 sle 1 1", "4 ite 1 2 3", "2 com 1", "2 neg 1",
		"2 band 1 1", "2 bor 1 1", "2 bxor 1 1", "2 add 1 1", "2 sub 1 1", "2 mul 1 1", "2 div 1 1", "2 rem 1 1",
		"2 shl 1 1", "2 shr 1 1", "2 sar 1 1", "2 rol 1 1", "2 ror 1 1",
		"2 cat 1 1", "2 slice 1 5 3", "2 zext 1 9", "2 sext 1 9",
	}
	for i, n := range oneOfEach() {
		root, e := s.Make(n)
		if e != api.OK {
			t.Fatal(n, e)
		}
		text, e := s.Dump(root)
		lines := strings.Split(text, "\n")
		if e != api.OK || lines[len(lines)-3] != want[i] || lines[len(lines)-2] != "roots "+lines[len(lines)-3][:1] {
			t.Errorf("%+v: %q %v, not %s", n, text, e, want[i])
		}
	}
}

// TestDumpNumbers: Num of a constant as bits.Text tells it, all other numbers decimal, however great.
func TestDumpNumbers(t *testing.T) {
	s := empty(t, 0)
	for _, c := range []struct {
		w    int
		x    uint64
		want string
	}{
		{64, 999, "1 const 64 999\n"}, {64, 1000, "1 const 64 0x3e8\n"}, {10, 1000, "1 const 10 0x3e8\n"},
		{64, math.MaxUint64, "1 const 64 0xffffffffffffffff\n"}, {1, 0, "1 const 1 0\n"},
	} {
		n, _ := s.Const(c.w, c.x)
		if got, e := s.Dump(n); got != c.want+"roots 1\n" || e != api.OK {
			t.Errorf("%q %v, not %q", got, e, c.want)
		}
	}
	long := deep(t, 1999, "A")
	text, _ := long.Dump(2000)
	if !strings.Contains(text, "\n1000 add 999 1\n1001 add 1000 1\n") || !strings.HasSuffix(text, "\n2000 add 1999 1\nroots 2000\n") {
		t.Error(text[len(text)-100:])
	}
}
