package term

import (
	"fmt"
	"math"
	"slices"
	"strings"
	"testing"

	"cadence/api"
)

// TestLoads: texts that are right: their terms and roots.
func TestLoads(t *testing.T) {
	all := "1 var k 8\n2 const 8 3\n3 add 1 2\nroots 3 1\n"
	cases := []struct {
		what, text string
		len        int
		roots      []int
		dump       string // "" where it is the text
	}{
		{"no term", "roots\n", 0, nil, ""},
		{"without the last line feed", "roots", 0, nil, "roots\n"},
		{"terms", all, 3, []int{3, 1}, ""},
		{"terms, without the last line feed", all[:len(all)-1], 3, []int{3, 1}, all},
		{"no root", "1 true\nroots\n", 1, nil, "roots\n"},
		{"several blanks", "1  var   k 8\n2 const  8     3\n3 add 1  2\nroots  3   1\n", 3, []int{3, 1}, all},
		{"blanks ahead and behind", " 1 var k 8 \n   2 const 8 3  \n3 add 1 2 \n  roots 3 1   \n", 3, []int{3, 1}, all},
		{"blanks at the very end", "roots ", 0, nil, "roots\n"},
		{"numbers with zeros ahead and with sixteen digits", "01 var k 0x8\n0x2 const 0008 0x03\n00003 add 0x1 02\nroots 0x3 001\n", 3, []int{3, 1}, all},
		{"two lines of one node", "1 true\n2 true\nroots 2 1\n", 1, []int{1, 1}, "1 true\nroots 1 1\n"},
		{"two lines of one node, and parts of both", "1 var k 8\n2 var k 8\n3 add 1 2\n4 add 2 1\n5 false\nroots 3 4 5\n", 3, []int{2, 2, 3}, "1 var k 8\n2 add 1 1\n3 false\nroots 2 2 3\n"},
		{"terms that no root leads to", "1 false\n2 true\nroots 2", 2, []int{2}, "1 true\nroots 1\n"},
		{"a variable called roots", "1 var roots 8\nroots 1\n", 1, []int{1}, ""},
		{"a variable called true, a truth", "1 var true 0\n2 not 1\nroots 2\n", 2, []int{2}, ""},
		{"the greatest word", "1 const 64 18446744073709551615\nroots 1\n", 1, []int{1}, "1 const 64 0xffffffffffffffff\nroots 1\n"},
		{"the greatest word with sixteen digits", "1 const 64 0xFFFFffffFFFFffff\nroots 1\n", 1, []int{1}, "1 const 64 0xffffffffffffffff\nroots 1\n"},
		{"a word of more than 31 bits", "1 const 32 2147483648\nroots 1\n", 1, []int{1}, "1 const 32 0x80000000\nroots 1\n"},
	}
	for _, c := range cases {
		s, roots, line, e := Load(c.text, 0)
		if e != api.OK || line != 0 || s.Len() != c.len || !slices.Equal(roots, c.roots) {
			t.Errorf("%s: %v %v, line %d, %v", c.what, s, roots, line, e)
			continue
		}
		want := c.dump
		if want == "" {
			want = c.text
		}
		if got, e := s.Dump(roots...); got != want || e != api.OK {
			t.Errorf("%s: %q %v", c.what, got, e)
		}
	}
}

// TestLoadRows: each operation's line becomes its node; a word less, a word more, or another word in the operation's place is ErrText.
func TestLoadRows(t *testing.T) {
	const head = "1 var t 0\n2 var k 8\n3 const 8 3\n"
	lines := []struct {
		line string
		want api.Node
	}{
		{"true", api.Node{Op: api.OpTrue}}, {"false", api.Node{Op: api.OpFalse}},
		{"const 4 9", word(4, 9)}, {"var fresh 9", variable("fresh", 9)}, {"not 1", api.Node{Op: api.OpNot, A: 1}},
		{"and 1 1", api.Node{Op: api.OpAnd, A: 1, B: 1}}, {"or 1 1", api.Node{Op: api.OpOr, A: 1, B: 1}},
		{"xor 1 1", api.Node{Op: api.OpXor, A: 1, B: 1}}, {"eq 2 3", api.Node{Op: api.OpEq, A: 2, B: 3}},
		{"ult 2 3", api.Node{Op: api.OpUlt, A: 2, B: 3}}, {"ule 2 3", api.Node{Op: api.OpUle, A: 2, B: 3}},
		{"slt 2 3", api.Node{Op: api.OpSlt, A: 2, B: 3}}, {"sle 2 3", api.Node{Op: api.OpSle, A: 2, B: 3}},
		{"ite 1 2 3", api.Node{Op: api.OpIte, W: 8, A: 1, B: 2, C: 3}}, {"ite 1 1 1", api.Node{Op: api.OpIte, A: 1, B: 1, C: 1}},
		{"com 2", api.Node{Op: api.OpCom, W: 8, A: 2}}, {"neg 3", api.Node{Op: api.OpNeg, W: 8, A: 3}},
		{"band 2 3", api.Node{Op: api.OpBand, W: 8, A: 2, B: 3}}, {"bor 2 3", api.Node{Op: api.OpBor, W: 8, A: 2, B: 3}},
		{"bxor 2 3", api.Node{Op: api.OpBxor, W: 8, A: 2, B: 3}}, {"add 2 3", api.Node{Op: api.OpAdd, W: 8, A: 2, B: 3}},
		{"sub 2 3", api.Node{Op: api.OpSub, W: 8, A: 2, B: 3}}, {"mul 2 3", api.Node{Op: api.OpMul, W: 8, A: 2, B: 3}},
		{"div 2 3", api.Node{Op: api.OpDiv, W: 8, A: 2, B: 3}}, {"rem 2 3", api.Node{Op: api.OpRem, W: 8, A: 2, B: 3}},
		{"shl 2 3", api.Node{Op: api.OpShl, W: 8, A: 2, B: 3}}, {"shr 2 3", api.Node{Op: api.OpShr, W: 8, A: 2, B: 3}},
		{"sar 2 3", api.Node{Op: api.OpSar, W: 8, A: 2, B: 3}}, {"rol 2 3", api.Node{Op: api.OpRol, W: 8, A: 2, B: 3}},
		{"ror 2 3", api.Node{Op: api.OpRor, W: 8, A: 2, B: 3}}, {"cat 2 3", api.Node{Op: api.OpCat, W: 16, A: 2, B: 3}},
		{"slice 2 3 5", api.Node{Op: api.OpSlice, W: 5, A: 2, Num: 3}},
		{"zext 2 64", api.Node{Op: api.OpZext, W: 64, A: 2}}, {"sext 2 8", api.Node{Op: api.OpSext, W: 8, A: 2}},
	}
	seen := map[int]bool{}
	for _, c := range lines {
		seen[c.want.Op] = true
		s, roots, line, e := Load(head+"4 "+c.line+"\nroots 4\n", 4)
		if e != api.OK || line != 0 || !slices.Equal(roots, []int{4}) {
			t.Errorf("%s: %v, line %d, %v", c.line, roots, line, e)
			continue
		}
		if n, e := s.Node(4); n != c.want || e != api.OK {
			t.Errorf("%s: %+v %v, not %+v", c.line, n, e, c.want)
		}
		words := strings.Split(c.line, " ")
		for _, wrong := range []string{strings.Join(words[:len(words)-1], " "), c.line + " 1", c.line + " x", "z" + c.line, strings.ToUpper(c.line), words[0] + "\t" + strings.Join(words[1:], " ") + "\t"} {
			wantGivenUp(t, head+"4 "+wrong+"\nroots 4\n", 4, api.ErrText)
		}
	}
	if len(seen) != api.OpLast {
		t.Errorf("%d operations", len(seen))
	}
}

// wantGivenUp: a text that Load refuses at a line, with nothing beside the error.
func wantGivenUp(t *testing.T, text string, at int, want api.Errno) {
	t.Helper()
	s, roots, line, e := Load(text, 0)
	if s != nil || roots != nil || line != at || e != want {
		t.Errorf("%q: %v %v, line %d, %v, not line %d, %v", text, s, roots, line, e, at, want)
	}
}

func TestLoadRefuses(t *testing.T) {
	cases := []struct {
		what, text string
		line       int
		want       api.Errno
	}{
		{"nothing", "", 1, api.ErrText},
		{"an empty line alone", "\n", 1, api.ErrText},
		{"blanks alone", "  ", 1, api.ErrText},
		{"no roots' line", "1 true\n", 2, api.ErrText},
		{"no roots' line, nor a last line feed", "1 true", 2, api.ErrText},
		{"no roots' line behind two", "1 true\n2 false\n", 3, api.ErrText},
		{"an empty line ahead", "\nroots\n", 1, api.ErrText},
		{"an empty line between", "1 true\n\n2 false\nroots\n", 2, api.ErrText},
		{"a line of blanks between", "1 true\n  \n2 false\nroots\n", 2, api.ErrText},
		{"an empty line at the end", "1 true\nroots 1\n\n", 3, api.ErrText},
		{"blanks behind the roots' line", "1 true\nroots 1\n ", 3, api.ErrText},
		{"a term behind the roots' line", "1 true\nroots 1\n2 true\n", 3, api.ErrText},
		{"roots twice", "roots\nroots\n", 2, api.ErrText},
		{"something wrong behind the roots' line", "roots\n1 var k 99\n", 2, api.ErrText},
		{"a wrong roots' line ahead of another line", "roots 1\n1 true\n", 1, api.ErrText},
		{"a line's number that is another one", "1 true\n3 false\nroots\n", 2, api.ErrText},
		{"a line's number again", "1 true\n1 false\nroots\n", 2, api.ErrText},
		{"from 0 on", "0 true\nroots\n", 1, api.ErrText},
		{"no number", "x true\nroots\n", 1, api.ErrText},
		{"a sign", "+1 true\nroots\n", 1, api.ErrText},
		{"a number alone", "1\nroots\n", 1, api.ErrText},
		{"roots with a number ahead", "1 roots\n", 1, api.ErrText},
		{"roots of another form", "Roots\n", 1, api.ErrText},
		{"a part that is the line itself", "1 add 1 1\nroots 1\n", 1, api.ErrText},
		{"a part of a line that is not there", "1 true\n2 and 1 3\n3 true\nroots 1\n", 2, api.ErrText},
		{"the part 0", "1 true\n2 and 1 0\nroots 1\n", 2, api.ErrText},
		{"the part -1", "1 true\n2 not -1\nroots 1\n", 2, api.ErrText},
		{"a second part alone", "1 true\n2 and 2 1\nroots 1\n", 2, api.ErrText},
		{"a third part", "1 true\n2 ite 1 1 2\nroots 1\n", 2, api.ErrText},
		{"the root 0", "1 true\nroots 0\n", 2, api.ErrText},
		{"a root that is not there", "1 true\nroots 1 2\n", 2, api.ErrText},
		{"a root that is no number", "1 true\nroots 1 true\n", 2, api.ErrText},
		{"a part of 2 to the 31st, less 1", "1 true\n2 not 2147483647\nroots\n", 2, api.ErrText},
		{"a part of 2 to the 32nd, and 1 more", "1 true\n2 not 4294967297\nroots\n", 2, api.ErrText},
		{"a root of 2 to the 64th, and 1 more", "1 true\nroots 18446744073709551617\n", 2, api.ErrText},
		{"W of 2 to the 31st, less 1", "1 var k 2147483647\nroots\n", 1, api.ErrWidth},
		{"W of 2 to the 31st", "1 var k 2147483648\nroots\n", 1, api.ErrText},
		{"W of 2 to the 32nd, and 8 more", "1 var k 4294967304\nroots\n", 1, api.ErrText},
		{"W of a constant of 2 to the 31st, less 1", "1 const 0x7fffffff 1\nroots\n", 1, api.ErrWidth},
		{"W of a constant of 2 to the 31st", "1 const 0x80000000 1\nroots\n", 1, api.ErrText},
		{"a slice's first bit of 2 to the 31st, less 1", "1 var k 8\n2 slice 1 2147483647 1\nroots\n", 2, api.ErrWidth},
		{"a slice's first bit of 2 to the 31st", "1 var k 8\n2 slice 1 2147483648 1\nroots\n", 2, api.ErrText},
		{"W of a slice of 2 to the 31st", "1 var k 8\n2 slice 1 0 2147483648\nroots\n", 2, api.ErrText},
		{"W of an extension of 2 to the 31st", "1 var k 8\n2 zext 1 2147483648\nroots\n", 2, api.ErrText},
		{"W of an extension of 2 to the 31st, less 1", "1 var k 8\n2 sext 1 2147483647\nroots\n", 2, api.ErrWidth},
		{"a word of 65 bits", "1 const 64 18446744073709551616\nroots\n", 1, api.ErrText},
		{"a word that W does not hold", "1 const 63 0x8000000000000000\nroots\n", 1, api.ErrWidth},
		{"a constant of no bits", "1 const 0 0\nroots\n", 1, api.ErrWidth},
		{"a width below 0", "1 var k -1\nroots\n", 1, api.ErrText},
		{"W of 65", "1 var k 65\nroots\n", 1, api.ErrWidth},
		{"no name", "1 var 9 8\nroots\n", 1, api.ErrName},
		{"no name, no width", "1 var 9 65\nroots\n", 1, api.ErrWidth},
		{"a name with another width", "1 var k 8\n2 var k 4\nroots 2\n", 2, api.ErrName},
		{"another sort", "1 var k 8\n2 not 1\nroots 2\n", 2, api.ErrSort},
		{"a sum of widths above 64", "1 var k 64\n2 var b 1\n3 cat 1 2\nroots 3\n", 3, api.ErrWidth},
		{"no width of shifts", "1 var k 3\n2 rol 1 1\nroots 2\n", 2, api.ErrWidth},
		{"a part of a line that is refused", "1 const 0 0\n2 com 1\nroots 2\n", 1, api.ErrWidth},
		{"Make's error ahead of a line of another form", "1 const 0 0\nx\n", 1, api.ErrWidth},
		{"a line of another form ahead of Make's error", "x\n2 const 0 0\n", 1, api.ErrText},
		{"another form within a line that Make would refuse", "1 const 0 x\nroots\n", 1, api.ErrText},
		{"a word more in a line that Make would refuse", "1 const 0 0 0\nroots\n", 1, api.ErrText},
		{"a tab", "1\ttrue\nroots\n", 1, api.ErrText},
		{"a carriage return", "1 true\r\nroots\n", 1, api.ErrText},
		{"a carriage return at the roots", "1 true\nroots 1\r\n", 2, api.ErrText},
		{"another blank", "1\u00a0true\nroots\n", 1, api.ErrText},
		{"no characters", "\xff\xfe\nroots\n", 1, api.ErrText},
		{"a byte 0", "1 true\x00\nroots\n", 1, api.ErrText},
	}
	for _, c := range cases {
		t.Run(c.what, func(t *testing.T) { wantGivenUp(t, c.text, c.line, c.want) })
	}
}

// TestLoadLimit: a limit below 0, one that is just enough, and one that is too small.
func TestLoadLimit(t *testing.T) {
	const text = "1 var k 8\n2 var k 8\n3 neg 1\n4 neg 3\nroots 4 2\n"
	for _, limit := range []int{-1, math.MinInt} {
		for _, any := range []string{text, "", "x"} {
			if s, roots, line, e := Load(any, limit); s != nil || roots != nil || line != 0 || e != api.ErrArg {
				t.Errorf("limit %d: %v %v %d %v", limit, s, roots, line, e)
			}
		}
	}
	for limit, at := range map[int]int{1: 3, 2: 4} {
		if s, roots, line, e := Load(text, limit); s != nil || roots != nil || line != at || e != api.ErrSize {
			t.Errorf("limit %d: %v %v %d %v", limit, s, roots, line, e)
		}
	}
	for _, limit := range []int{0, 3, 4, math.MaxInt} {
		s, roots, line, e := Load(text, limit)
		if e != api.OK || line != 0 || !slices.Equal(roots, []int{3, 1}) || s.Len() != 3 {
			t.Errorf("limit %d: %v %d %v", limit, roots, line, e)
			continue
		}
		want := answer{4, api.OK}
		if limit == 3 {
			want = answer{0, api.ErrSize}
		}
		wantSame(t, "the limit holds on", told(s.Un(api.OpCom, 1)), want)
	}
	s, _, _, e := Load("roots", 1)
	if e != api.OK {
		t.Fatal(e)
	}
	wantSame(t, "the first", told(s.Truth(true)), answer{1, api.OK})
	wantSame(t, "the second", told(s.Truth(false)), answer{0, api.ErrSize})
}

// TestLoadedStore: what is loaded knows its terms and its variables as one that was made.
func TestLoadedStore(t *testing.T) {
	s, _, _, e := Load("1 var k 8\n2 const 8 3\n3 add 1 2\nroots 3\n", 0)
	if e != api.OK {
		t.Fatal(e)
	}
	wantSame(t, "k", told(s.Var("k", 8)), answer{1, api.OK})
	wantSame(t, "add", told(s.Bin(api.OpAdd, 1, 2)), answer{3, api.OK})
	wantSame(t, "k of another width", told(s.Var("k", 9)), answer{0, api.ErrName})
	wantSame(t, "a new one", told(s.Bin(api.OpAdd, 2, 1)), answer{4, api.OK})
}

// TestLoadLong: a line of very many roots, a number of very many zeros, very many blanks.
func TestLoadLong(t *testing.T) {
	many := strings.Repeat(" 1", 1<<18)
	s, roots, line, e := Load("1 true\nroots"+many, 0)
	if e != api.OK || line != 0 || len(roots) != 1<<18 || s.Len() != 1 {
		t.Fatal(len(roots), line, e)
	}
	if text, e := s.Dump(roots...); text != "1 true\nroots"+many+"\n" || e != api.OK {
		t.Error(len(text), e)
	}
	wantGivenUp(t, "1 true\nroots"+many+" 2", 2, api.ErrText)
	zeros, blanks := strings.Repeat("0", 1<<20), strings.Repeat(" ", 1<<20)
	if _, roots, _, e := Load(zeros+"1"+blanks+"true"+blanks+"\nroots"+blanks+zeros+"1", 0); e != api.OK || !slices.Equal(roots, []int{1}) {
		t.Error(roots, e)
	}
	wantGivenUp(t, strings.Repeat("x", 1<<20), 1, api.ErrText)
	wantGivenUp(t, strings.Repeat("\n", 1<<20), 1, api.ErrText)
}

// TestLoadEachByte: a line in which one byte became another one, or is gone, or stands twice, against the plain reading.
func TestLoadEachByte(t *testing.T) {
	const text = "1 var k 8\n2 const 8 0x1f\n3 slice 1 2 3\nroots 3 2\n"
	for at := range len(text) {
		sameLoad(t, text[:at]+text[at+1:])
		sameLoad(t, text[:at]+text[at:at+1]+text[at:])
		for b := range 256 {
			sameLoad(t, text[:at]+string([]byte{byte(b)})+text[at+1:])
			sameLoad(t, text[:at]+string([]byte{byte(b)})+text[at:])
		}
	}
}

// sameLoad holds Load, with several limits, against the plain reading of a text.
func sameLoad(t *testing.T, text string) {
	t.Helper()
	for _, limit := range []int{0, 2, -1} {
		s, roots, line, e := Load(text, limit)
		p, want, at, bad := plainLoad(text, limit)
		if !slices.Equal(roots, want) || line != at || e != bad || (s == nil) != (p == nil) {
			t.Fatalf("%q, limit %d: %v, line %d, %v, not %v, line %d, %v", text, limit, roots, line, e, want, at, bad)
		}
		if s != nil && fmt.Sprint(s.nodes) != fmt.Sprint(p.nodes) {
			t.Fatalf("%q: %v, not %v", text, s.nodes, p.nodes)
		}
	}
}
