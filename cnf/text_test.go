package cnf

import (
	"regexp"
	"slices"
	"strconv"
	"strings"
	"testing"

	"cadence/api"
)

// F2.12
func TestPrint(t *testing.T) {
	cases := []struct {
		f api.Formula
		s string
	}{
		{formula(2, api.Clause{1, -2}, nil), "p cnf 2 2\n1 -2 0\n0\n"},
		{api.Formula{}, "p cnf 0 0\n"},
		{formula(7), "p cnf 7 0\n"},
		{formula(0, api.Clause{}, nil), "p cnf 0 2\n0\n0\n"},
		{formula(3, api.Clause{3, -1, 3, 1}), "p cnf 3 1\n3 -1 3 1 0\n"},
		{formula(api.MaxVars, api.Clause{api.MaxVars}, api.Clause{-api.MaxVars, 10}), "p cnf 1048576 2\n1048576 0\n-1048576 10 0\n"},
	}
	for _, c := range cases {
		if s, e := Print(c.f); s != c.s || e != api.OK {
			t.Errorf("Print(%v) = %q %d, not %q", c.f, s, e, c.s)
		}
	}
}

// F2.13
func TestParse(t *testing.T) {
	two := formula(2, api.Clause{1, -2}, nil)
	cases := []struct {
		s string
		f api.Formula
	}{
		{"c x\np cnf 2 2\n1 -2 0 0", two},
		{"p cnf 2 2\n1 -2 0\n0\n", two},
		{"p cnf 2 2\n1 -2 0\n0", two},
		{"\n \n\t\r\nc\nc p cnf 9 9\nc\tx\n  c x 1 0\n p\tcnf \r2  2 \n\n1\n\n-2\nc 0\n0\t0 \r\n\n c\n", two},
		{"p cnf 2 2\r\n1 -2 0\r\n0\r\n", two},
		{"p cnf 2 2\n1\t-2\r0 0", two},
		{"p cnf 0 0", formula(0)},
		{"p cnf 0 0\n", formula(0)},
		{"p cnf 0 0\n\n\nc", formula(0)},
		{"p cnf 1048576 0", formula(api.MaxVars)},
		{"p cnf 1048576 1\n1048576 -1048576 0", formula(api.MaxVars, api.Clause{api.MaxVars, -api.MaxVars})},
		{"p cnf 0 3\n0 0 0", formula(0, nil, nil, nil)},
		{"p cnf 3 1\n3 3 -3 1 0", formula(3, api.Clause{3, 3, -3, 1})},
		{"p cnf 3 2\n1 2\n3 0 -1\n-2 0", formula(3, api.Clause{1, 2, 3}, api.Clause{-1, -2})},
		{"p cnf 20 1\n10 -20 0", formula(20, api.Clause{10, -20})},
		{"c \xff\x00é\np cnf 1 1\n1 0", formula(1, api.Clause{1})},
	}
	for _, c := range cases {
		if f, line, e := Parse(c.s); !sameFormula(f, c.f) || line != 0 || e != api.OK {
			t.Errorf("Parse(%q) = %v %d %d, not %v", c.s, f, line, e, c.f)
		}
	}
}

func TestParseRefuses(t *testing.T) {
	cases := []struct {
		s    string
		line int
		e    api.Errno
	}{
		// what is not there
		{"", 1, api.ErrText},
		{"\n", 2, api.ErrText},
		{"\n\n", 3, api.ErrText},
		{" ", 2, api.ErrText},
		{"c", 2, api.ErrText},
		{"c\n", 2, api.ErrText},
		{"c\n ", 3, api.ErrText},
		{"p cnf 1 1\n1", 3, api.ErrText},
		{"p cnf 1 1\n1\n", 3, api.ErrText},
		{"p cnf 1 1\n1\n\n", 4, api.ErrText},
		{"p cnf 1 1\n1\nc 0", 4, api.ErrText},
		{"p cnf 1 1", 2, api.ErrText},
		{"p cnf 1 1\n", 2, api.ErrText},
		{"p cnf 1 2\n1 0", 3, api.ErrText},
		{"p cnf 1 2\n1 0 1", 3, api.ErrText},
		{"p cnf 1 1048576\n1 0", 3, api.ErrText},
		// the first line that says something
		{"1 0", 1, api.ErrText},
		{"\nc\nx", 3, api.ErrText},
		{"p", 1, api.ErrText},
		{"p cnf", 1, api.ErrText},
		{"p cnf 1", 1, api.ErrText},
		{"p\ncnf 1 1\n1 0", 1, api.ErrText},
		{"p cnf 1\n1\n1 0", 1, api.ErrText},
		{"p cnf 1 1 1", 1, api.ErrText},
		{"p cnf 1 1 c", 1, api.ErrText},
		{"p cnf 1 1 0\n1 0", 1, api.ErrText},
		{"P cnf 1 1", 1, api.ErrText},
		{"p CNF 1 1", 1, api.ErrText},
		{"cnf p 1 1", 1, api.ErrText},
		{"pcnf 1 1", 1, api.ErrText},
		{"cx\np cnf 0 0", 1, api.ErrText},
		{"C\np cnf 0 0", 1, api.ErrText},
		{"p cnf -1 1", 1, api.ErrText},
		{"p cnf 1 -1", 1, api.ErrText},
		{"p cnf -0 0", 1, api.ErrText},
		{"p cnf 0 -0", 1, api.ErrText},
		{"p cnf 01 1", 1, api.ErrText},
		{"p cnf 1 01", 1, api.ErrText},
		{"p cnf 00 0", 1, api.ErrText},
		{"p cnf x 1", 1, api.ErrText},
		{"p cnf 1 x", 1, api.ErrText},
		{"p cnf +1 1", 1, api.ErrText},
		{"p cnf 1000000000 1", 1, api.ErrText},
		{"p cnf 1 1000000000", 1, api.ErrText},
		{"p\u00a0cnf 1 1", 1, api.ErrText},
		{"p\vcnf 1 1", 1, api.ErrText},
		{"\x00p cnf 1 1", 1, api.ErrText},
		{"\ufeffp cnf 1 1", 1, api.ErrText},
		{"p cnf 1048577 x", 1, api.ErrText},
		{"p cnf 1048577 1 1", 1, api.ErrText},
		{"p cnf 1 1048577 1", 1, api.ErrText},
		// V and N
		{"p cnf 1048577 1", 1, api.ErrVars},
		{"p cnf 999999999 0", 1, api.ErrVars},
		{"p cnf 1 1048577", 1, api.ErrClauses},
		{"p cnf 0 999999999", 1, api.ErrClauses},
		{"p cnf 1048577 1048577", 1, api.ErrVars},
		{"c\n\np cnf 1048577 1\nx", 3, api.ErrVars},
		// words that are no numbers
		{"p cnf 1 1\nx 0", 2, api.ErrText},
		{"p cnf 1 1\n1 0x", 2, api.ErrText},
		{"p cnf 1 1\n1 c", 2, api.ErrText},
		{"p cnf 1 1\n1 0\np cnf 1 1", 3, api.ErrText},
		{"p cnf 1 1\n-", 2, api.ErrText},
		{"p cnf 1 1\n--1 0", 2, api.ErrText},
		{"p cnf 1 1\n-+1 0", 2, api.ErrText},
		{"p cnf 1 1\n+1 0", 2, api.ErrText},
		{"p cnf 1 1\n1- 0", 2, api.ErrText},
		{"p cnf 1 1\n-0", 2, api.ErrText},
		{"p cnf 1 1\n1 -0", 2, api.ErrText},
		{"p cnf 1 1\n00", 2, api.ErrText},
		{"p cnf 1 1\n01 0", 2, api.ErrText},
		{"p cnf 1 1\n-01 0", 2, api.ErrText},
		{"p cnf 1 1\n1_0 0", 2, api.ErrText},
		{"p cnf 1 1\n1. 0", 2, api.ErrText},
		{"p cnf 1 1\n1\v0", 2, api.ErrText},
		{"p cnf 1 1\n1\x000", 2, api.ErrText},
		{"p cnf 1 1\n１ 0", 2, api.ErrText},
		{"p cnf 1 1\n1000000000 0", 2, api.ErrText},
		{"p cnf 1 1\n-1000000000 0", 2, api.ErrText},
		{"p cnf 1 1\n0000000001 0", 2, api.ErrText},
		{"p cnf 1 1\n99999999999999999999 0", 2, api.ErrText},
		{"p cnf 1 1\n-99999999999999999999 0", 2, api.ErrText},
		// variables above V
		{"p cnf 1 1\n2 0", 2, api.ErrLit},
		{"p cnf 1 1\n-2 0", 2, api.ErrLit},
		{"p cnf 0 1\n1 0", 2, api.ErrLit},
		{"p cnf 1 1\n999999999 0", 2, api.ErrLit},
		{"p cnf 1 1\n-999999999 0", 2, api.ErrLit},
		{"p cnf 1048576 1\n1048577 0", 2, api.ErrLit},
		{"p cnf 1048576 1\n-1048577 0", 2, api.ErrLit},
		// behind the last clause
		{"p cnf 1 0\n0", 2, api.ErrClauses},
		{"p cnf 1 0\n1", 2, api.ErrClauses},
		{"p cnf 1 1\n1 0 0", 2, api.ErrClauses},
		{"p cnf 1 1\n1 0\n\nc\n1", 5, api.ErrClauses},
		{"p cnf 1 1\n1 0 2", 2, api.ErrClauses},
		{"p cnf 1 1\n1 0 x", 2, api.ErrText},
		{"p cnf 1 1\n1 0 -0", 2, api.ErrText},
		// the first fault from the top
		{"p cnf 1 2\n2 0 x", 2, api.ErrLit},
		{"p cnf 1 2\nx 2 0", 2, api.ErrText},
		{"p cnf 1 2\n1\n2\nx", 3, api.ErrLit},
		{"p cnf 1 1\n1 0 1\nx", 2, api.ErrClauses},
		{"p cnf 1 1\n1 0\nx 1", 3, api.ErrText},
		{"p cnf 1 1\n1 0\n1 x", 3, api.ErrClauses},
	}
	for _, c := range cases {
		if f, line, e := Parse(c.s); !isZero(f) || line != c.line || e != c.e {
			t.Errorf("Parse(%q) = %v %d %d, not %d %d", c.s, f, line, e, c.line, c.e)
		}
	}
}

// TestParseOneByte: each byte as a word, between two words, and as a sign.
func TestParseOneByte(t *testing.T) {
	for b := range 256 {
		s := string([]byte{byte(b)})
		checkLikePlain(t, s)
		checkLikePlain(t, "p cnf 1 1\n"+s)
		checkLikePlain(t, "p cnf 1 1\n"+s+" 0")
		checkLikePlain(t, "p cnf 1 1\n1"+s+"0")
		checkLikePlain(t, "p cnf 1 1\n"+s+"1 0")
		checkLikePlain(t, "p cnf 1 1"+s+"1 0")
		checkLikePlain(t, "p"+s+"cnf 1 1\n1 0")
		checkLikePlain(t, s+"p cnf 1 1\n1 0")
		checkLikePlain(t, s+" x\np cnf 1 1\n1 0")
	}
}

func TestParseLimits(t *testing.T) {
	long := strings.Repeat("1 ", api.MaxClause)
	if f, line, e := Parse("p cnf 1 1\n" + long + "\n0"); !sameFormula(f, formula(1, slices.Repeat(api.Clause{1}, api.MaxClause))) || line != 0 || e != api.OK {
		t.Errorf("Parse of MaxClause literals: %d %d", line, e)
	}
	all := "p cnf 1 65\n" + strings.Repeat(long+"0\n", 64) // just MaxLits literals
	if f, line, e := Parse(all + "0"); len(f.Clauses) != 65 || line != 0 || e != api.OK {
		t.Errorf("Parse of MaxLits literals: %d %d", line, e)
	}
	if f, line, e := Parse("p cnf 0 1048576\n" + strings.Repeat("0 ", api.MaxClauses)); len(f.Clauses) != api.MaxClauses || line != 0 || e != api.OK {
		t.Errorf("Parse of MaxClauses clauses: %d %d", line, e)
	}
	wrong := []struct {
		what, s string
		line    int
		e       api.Errno
	}{
		{"one literal more", "p cnf 1 1\n" + long + "\n1 0", 3, api.ErrClause},
		{"one literal more, above V", "p cnf 1 1\n" + long + "\n2 0", 3, api.ErrClause},
		{"one literal more, no number", "p cnf 1 1\n" + long + "\nx 0", 3, api.ErrText},
		{"a long clause behind the last one", "p cnf 1 1\n0 " + long + "1", 2, api.ErrClauses},
		{"one literal more of all", all + "1", 66, api.ErrClauses},
		{"one literal more of all, above V", all + "\n2", 67, api.ErrLit},
		{"one literal more of all, no number", all + "01", 66, api.ErrText},
		{"one literal more of all and of its clause", "p cnf 1 65\n" + strings.Repeat(long+"0\n", 63) + long + "1", 65, api.ErrClause},
		{"a clause more", "p cnf 0 1048576\n" + strings.Repeat("0 ", api.MaxClauses) + "\n0", 3, api.ErrClauses},
		{"a clause less", "p cnf 0 1048576\n" + strings.Repeat("0 ", api.MaxClauses-1) + "\n", 3, api.ErrText},
	}
	for _, c := range wrong {
		if f, line, e := Parse(c.s); !isZero(f) || line != c.line || e != c.e {
			t.Errorf("%s: %d clauses, %d %d, not %d %d", c.what, len(f.Clauses), line, e, c.line, c.e)
		}
	}
}

var (
	plainNumber  = regexp.MustCompile(`^(0|-?[1-9][0-9]{0,8})$`)
	plainNatural = regexp.MustCompile(`^(0|[1-9][0-9]{0,8})$`)
	plainBlanks  = regexp.MustCompile(`[ \t\r]+`)
)

func plainWords(row string) []string {
	return slices.DeleteFunc(plainBlanks.Split(row, -1), func(w string) bool { return w == "" })
}

// plainParse: as the words of the chapter say it, for texts below the limits of literals.
func plainParse(text string) (api.Formula, int, api.Errno) {
	rows := strings.Split(text, "\n")
	if rows[len(rows)-1] == "" {
		rows = rows[:len(rows)-1]
	}
	head, vars, count := false, 0, 0
	var lits api.Clause
	var clauses []api.Clause
	for k, row := range rows {
		words := plainWords(row)
		if len(words) == 0 || words[0] == "c" {
			continue
		}
		if !head {
			if len(words) != 4 || words[0] != "p" || words[1] != "cnf" || !plainNatural.MatchString(words[2]) || !plainNatural.MatchString(words[3]) {
				return api.Formula{}, k + 1, api.ErrText
			}
			vars, _ = strconv.Atoi(words[2])
			count, _ = strconv.Atoi(words[3])
			if vars > 1048576 {
				return api.Formula{}, k + 1, api.ErrVars
			}
			if count > 1048576 {
				return api.Formula{}, k + 1, api.ErrClauses
			}
			head = true
			continue
		}
		for _, w := range words {
			l, _ := strconv.Atoi(w)
			switch {
			case !plainNumber.MatchString(w):
				return api.Formula{}, k + 1, api.ErrText
			case len(clauses) == count:
				return api.Formula{}, k + 1, api.ErrClauses
			case l > vars || -l > vars:
				return api.Formula{}, k + 1, api.ErrLit
			case l == 0:
				clauses, lits = append(clauses, lits), nil
			default:
				lits = append(lits, l)
			}
		}
	}
	if !head || len(clauses) < count || len(lits) > 0 {
		return api.Formula{}, len(rows) + 1, api.ErrText
	}
	return api.Formula{Vars: vars, Clauses: clauses}, 0, api.OK
}

func checkLikePlain(t *testing.T, text string) {
	t.Helper()
	want, wantLine, wantE := plainParse(text)
	if f, line, e := Parse(text); !sameFormula(f, want) || line != wantLine || e != wantE {
		t.Fatalf("Parse(%q) = %v %d %d, not %v %d %d", text, f, line, e, want, wantLine, wantE)
	}
}

// TestParseAll: texts made of pieces, most of them nearly right.
func TestParseAll(t *testing.T) {
	pieces := []string{"1", "-1", "2", "-2", "3", "0", "0", "0", "0", "\n", "\n", " ", " ", " ", "\t", "\r", "c", "c ", "\nc ", "-", "x", "p", "01", "-0", "999999999", "1000000000", "p cnf 2 2\n"}
	heads := []string{"p cnf 2 2\n", "p cnf 2 1\n", "c\np cnf 3 3\n", " p cnf 2  0", "", "p cnf 1048577 1", "\n"}
	p := picker(8)
	for range 60000 {
		var b strings.Builder
		b.WriteString(heads[p.below(len(heads))])
		for range p.below(12) {
			b.WriteString(pieces[p.below(len(pieces))])
			if p.below(2) == 0 {
				b.WriteString(" ")
			}
		}
		checkLikePlain(t, b.String())
	}
}

func TestParseMemory(t *testing.T) {
	const text = "p cnf 3 4\n1 2 0 -3 0\n0 3 2 1 0"
	f, _, _ := Parse(text)
	checkApart(t, "Parse", f)
	scribbleFormula(f)
	want := formula(3, api.Clause{1, 2}, api.Clause{-3}, nil, api.Clause{3, 2, 1})
	if g, _, e := Parse(text); !sameFormula(g, want) || e != api.OK {
		t.Errorf("Parse of the same text: %v %d", g, e)
	}
}
