package rup

import (
	"fmt"
	"math"
	"regexp"
	"strconv"
	"strings"
	"testing"

	"cadence/api"
)

func TestText(t *testing.T) {
	for _, c := range []struct {
		p    []api.Step
		want string
	}{
		{[]api.Step{add(1, -2), drop(1)}, "1 -2 0\nd 1 0\n"},
		{nil, ""},
		{[]api.Step{}, ""},
		{[]api.Step{add()}, "0\n"},
		{[]api.Step{{Clause: api.Clause{}}, drop()}, "0\nd 0\n"},
		{[]api.Step{drop(-1, 1, 1), add(2147483647, -2147483647)}, "d -1 1 1 0\n2147483647 -2147483647 0\n"},
		{[]api.Step{add(0, 0), drop(0)}, "0 0 0\nd 0 0\n"},
		{[]api.Step{add(math.MaxInt64, math.MinInt64)}, "9223372036854775807 -9223372036854775808 0\n"},
	} {
		if got := Text(c.p); got != c.want {
			t.Errorf("%v: %q, not %q", c.p, got, c.want)
		}
	}
}

func TestParse(t *testing.T) {
	for _, c := range []struct {
		text string
		want []api.Step
	}{
		{"c hi\n\n1 -2 0", []api.Step{add(1, -2)}},
		{"0", []api.Step{add()}},
		{"", nil},
		{"\n", nil},
		{"\n\n\n", nil},
		{" \t\r\n  ", nil},
		{"c", nil},
		{"c\n", nil},
		{"c 1 2 x\x00 \xff 0 d", nil},
		{"  \tc 1 x", nil},
		{"c\t1", nil},
		{"c\r", nil},
		{"0\n", []api.Step{add()}},
		{"0\n\n", []api.Step{add()}},
		{"0\n0", []api.Step{add(), add()}},
		{"d 0", []api.Step{drop()}},
		{"d\t0\r\n", []api.Step{drop()}},
		{"  d  1   -2 \t 0  \r\n1 0", []api.Step{drop(1, -2), add(1)}},
		{"1\r2\r0\r", []api.Step{add(1, 2)}},
		{"1 1 -1 0", []api.Step{add(1, 1, -1)}},
		{"2147483647 -2147483647 0", []api.Step{add(2147483647, -2147483647)}},
		{"1048577 -1048577 0", []api.Step{add(1048577, -1048577)}},
		{"10 -100 0\nc 1\nd 10 0\n", []api.Step{add(10, -100), drop(10)}},
		{"1 0\nc the end", []api.Step{add(1)}},
	} {
		if got, line, bad := Parse(c.text); !sameProofs(got, c.want) || line != 0 || bad != api.OK {
			t.Errorf("%q: %v, %d, %v", c.text, got, line, bad)
		}
	}
}

// wrongLines: lines that are none.
var wrongLines = []string{
	"1 2", "0 0", "d", "+1 0", "-0", "1", "d 1", "d d 0", "1 d 0", "d c 0", "0 d", "0 c", "1 0 2", "1 0 2 0", "0 1", "1 0 0", "d 0 0", "d 1 0 1",
	"00", "01 0", "-01 0", "007 0", "1 00", "1 -0", "- 0", "-", "--1 0", "+0", "-+1 0", "1- 0", "1-2 0",
	"x", "1 x 0", "1 0 x", "X 0", "D 0", "C 0", "cc", "c1 0", "cx", "dd 0", "d1 0", "d0", "-d 0", "d-1 0", "1c 0", "1 c 0", "1 c",
	"2147483648 0", "-2147483648 0", "2147483649 0", "4294967296 0", "4294967297 0", "9223372036854775807 0", "9223372036854775808 0", "-9223372036854775808 0",
	"18446744073709551616 0", "18446744073709551617 0", "99999999999999999999999999999999 0", "1 2147483648 0", "02147483647 0",
	"0x1 0", "1_0 0", "1_000 0", "1.0 0", "1e3 0", "0b1 0", "1, 2, 0", "1,0",
	"1\v0", "1\f0", "1\u00a00", "\u00a0", "\u0085", "\v", "\x00", "1 0\x00", "1 0 \x00", "\ufeff1 0", "\u0661 0", "\uff11 0", "\xff", "1 \xff 0", "\u2028", "c\v", "c\u00a0x", "p cnf 1 1", "% 0", "e 1 0",
}

// TestParseWrong: each of them alone, behind other lines, and ahead of lines that are wrong, too.
func TestParseWrong(t *testing.T) {
	for _, wrong := range wrongLines {
		for _, c := range []struct {
			text string
			line int
		}{
			{wrong, 1},
			{wrong + "\n", 1},
			{" \t" + wrong + " \r", 1},
			{"\n" + wrong, 2},
			{"c\n1 0\n\nd 1 0\n" + wrong + "\n", 5},
			{"1 0\n" + wrong + "\nc\n1 0", 2},
			{"1 0\n" + wrong + "\nx\n0 0", 2},
		} {
			if got, line, bad := Parse(c.text); len(got) != 0 || line != c.line || bad != api.ErrText {
				t.Errorf("%q: %v, %d, %v, not %d", c.text, got, line, bad, c.line)
			}
		}
	}
}

var (
	nothingLine = regexp.MustCompile(`^[ \t\r]*(c([ \t\r].*)?)?$`)
	stepLine    = regexp.MustCompile(`^[ \t\r]*(d[ \t\r]+)?(-?[1-9][0-9]*[ \t\r]+)*0[ \t\r]*$`)
	blanks      = regexp.MustCompile(`[ \t\r]+`)
)

// plainParse: in other words: lines by patterns.
func plainParse(s string) ([]api.Step, int, api.Errno) {
	var p []api.Step
	for i, line := range strings.Split(s, "\n") {
		if nothingLine.MatchString(line) {
			continue
		}
		words := blanks.Split(strings.Trim(line, " \t\r"), -1)
		step := api.Step{Drop: words[0] == "d"}
		ok := stepLine.MatchString(line)
		for _, w := range words {
			x, err := strconv.ParseFloat(strings.TrimPrefix(w, "-"), 64)
			if w == "d" || w == "0" {
				continue
			}
			ok = ok && err == nil && x < 1<<31
			if ok && strings.HasPrefix(w, "-") {
				x = -x
			}
			step.Clause = append(step.Clause, int(x))
		}
		if !ok {
			return nil, i + 1, api.ErrText
		}
		p = append(p, step)
	}
	return p, 0, api.OK
}

// TestParseMany: texts of pieces, held against the plain reading.
func TestParseMany(t *testing.T) {
	pieces := []string{"1", "-2", "13", "0", "0", "0\n", "0\n", "\n", " ", " ", " ", "\t", "\r", "d", "c", "\nd ", "\n0", "2147483647", "2147483648", "-", "+", "x", "00", "d 1 -2 0\n", "1 2 3 0\n", "c 1\n"}
	p := picker(47)
	count := map[api.Errno]int{}
	for range 200000 {
		text := ""
		for range p.below(7) {
			text += pieces[p.below(len(pieces))]
		}
		got, line, bad := Parse(text)
		want, wantLine, wantBad := plainParse(text)
		if !sameProofs(got, want) || line != wantLine || bad != wantBad {
			t.Fatalf("%q: %v, %d, %v, not %v, %d, %v", text, got, line, bad, want, wantLine, wantBad)
		}
		count[bad]++
	}
	if min(count[api.OK], count[api.ErrText]) < 20000 {
		t.Errorf("%v", count)
	}
}

// TestParseText: Parse of Text is the proof.
func TestParseText(t *testing.T) {
	p := picker(53)
	for range 3000 {
		var steps []api.Step
		for range p.below(8) {
			s := api.Step{Drop: p.below(2) == 0}
			for range p.below(5) {
				s.Clause = append(s.Clause, p.literal(1<<(1+p.below(31))-1))
			}
			steps = append(steps, s)
		}
		text := Text(steps)
		got, line, bad := Parse(text)
		if !sameProofs(got, steps) || line != 0 || bad != api.OK {
			t.Fatalf("%v: %q: %v, %d, %v", steps, text, got, line, bad)
		}
		if again := Text(got); again != text {
			t.Fatalf("%q, then %q", text, again)
		}
		if got, _, bad := Parse(strings.TrimSuffix(text, "\n")); !sameProofs(got, steps) || bad != api.OK {
			t.Fatalf("%q without the last line feed: %v, %v", text, got, bad)
		}
	}
	for _, l := range []int{0, 1 << 31, -1 << 31, math.MaxInt, math.MinInt} {
		if got, line, bad := Parse(Text([]api.Step{add(1), add(1, l, 2)})); len(got) != 0 || line != 2 || bad != api.ErrText {
			t.Errorf("%d: %v, %d, %v", l, got, line, bad)
		}
	}
}

// TestParseLong: a proof's text has no limit, nor has a clause in it.
func TestParseLong(t *testing.T) {
	long := []api.Step{add(repeated(-7, 3*api.MaxClause)...), drop(1)}
	if got, line, bad := Parse(Text(long)); !sameProofs(got, long) || line != 0 || bad != api.OK {
		t.Errorf("a long clause: %d steps, %d, %v", len(got), line, bad)
	}
	many := strings.Repeat("d 1 0\n", api.MaxClauses+2)
	if got, line, bad := Parse(many); len(got) != api.MaxClauses+2 || line != 0 || bad != api.OK || Text(got) != many {
		t.Errorf("many steps: %d, %d, %v", len(got), line, bad)
	}
	if got, line, bad := Parse(many + "1"); len(got) != 0 || line != api.MaxClauses+3 || bad != api.ErrText {
		t.Errorf("many steps and a wrong line: %d, %d, %v", len(got), line, bad)
	}
	digits := strings.Repeat("9", 1<<20)
	if got, line, bad := Parse(fmt.Sprint("\n", digits, " 0")); len(got) != 0 || line != 2 || bad != api.ErrText {
		t.Errorf("many digits: %v, %d, %v", got, line, bad)
	}
}

func FuzzParse(f *testing.F) {
	for _, wrong := range wrongLines {
		f.Add(wrong)
	}
	f.Add("c hi\n\n1 -2 0\nd 1 0")
	f.Fuzz(func(t *testing.T, text string) {
		got, line, bad := Parse(text)
		want, wantLine, wantBad := plainParse(text)
		if !sameProofs(got, want) || line != wantLine || bad != wantBad {
			t.Fatalf("%q: %v, %d, %v, not %v, %d, %v", text, got, line, bad, want, wantLine, wantBad)
		}
	})
}
