package aig

import (
	"strings"
	"testing"

	"cadence/api"
)

func TestParse(t *testing.T) {
	for _, x := range []struct {
		text  string
		nodes string
		roots []uint32
	}{
		{"aag 0 0 0 0 0\n", "0", nil},
		{"aag 0 0 0 3 0\n1\n0\n1\n", "0", []uint32{1, 0, 1}},
		{"aag 2 2 0 2 0\n2\n4\n5\n2\n", "0 i0 i1", []uint32{5, 2}},
		{"aag 3 2 0 1 1\n2\n4\n7\n6 2 4\n", "0 i0 i1 2*4", []uint32{7}},
		{"aag 3 2 0 2 1\n2\n4\n6\n0\n6 5 3\n", "0 i0 i1 5*3", []uint32{6, 0}},
		// Lines that make no gate: constants, equal and opposite ones, one that is there.
		{"aag 4 2 0 2 2\n2\n4\n8\n7\n6 1 4\n8 6 2\n", "0 i0 i1 4*2", []uint32{6, 5}},
		{"aag 7 2 0 6 5\n2\n4\n6\n9\n10\n12\n14\n15\n6 2 2\n8 4 5\n10 3 9\n12 10 0\n14 5 1\n", "0 i0 i1", []uint32{2, 1, 3, 0, 5, 4}},
		{"aag 4 2 0 2 2\n2\n4\n8\n6\n6 2 4\n8 2 4\n", "0 i0 i1 2*4", []uint32{6, 6}},
		{"aag 4 2 0 1 2\n2\n4\n8\n6 2 4\n8 7 6\n", "0 i0 i1 2*4", []uint32{0}},
		// The greatest root, and operands just below the gate.
		{"aag 3 2 0 1 1\n2\n4\n7\n6 5 5\n", "0 i0 i1", []uint32{4}},
		{"aag 1 0 0 1 1\n3\n2 1 1\n", "0", []uint32{0}},
		{"aag 2 1 0 1 1\n2\n5\n4 3 3\n", "0 i0", []uint32{2}},
	} {
		g, roots, line, e := Parse(x.text)
		if e != api.OK {
			t.Fatalf("%q: %d at %d", x.text, e, line)
		}
		same(t, x.text, []any{look(t, g), roots, line}, []any{x.nodes, x.roots, 0})
	}
}

// refused: with the error and its line alone.
func refused(t *testing.T, text string, line int, e api.Errno) {
	t.Helper()
	g, roots, at, got := Parse(text)
	if g != nil || roots != nil || at != line || got != e {
		t.Errorf("%q: %v, %v, line %d, error %d; not line %d, error %d", text, g, roots, at, got, line, e)
	}
}

func TestParseFaultsOfTheFirstLine(t *testing.T) {
	for _, line := range []string{
		"", "\n", "aag", "aag ", "aag 0 0 0 0", "aag 0 0 0 0 0 0", "aag 0 0 0 0 0 ", " aag 0 0 0 0 0", "aag  0 0 0 0 0", "aag 0 0  0 0 0", "aag 0 0 0 0  0",
		"aig 0 0 0 0 0", "AAG 0 0 0 0 0", "aag0 0 0 0 0", "0 0 0 0 0", "aag\t0 0 0 0 0", "aag 0\t0 0 0 0", "aag 0 0 0 0 0\r", "aag 0 0 0 0 0\t",
		"aag 00 0 0 0 0", "aag 0 00 0 0 0", "aag 0 0 00 0 0", "aag 0 0 0 00 0", "aag 0 0 0 0 00", "aag 01 01 0 0 0", "aag 1 01 0 0 0", "aag 0 0 0 01 0",
		"aag 0 0 1 0 0", "aag 1 0 1 0 0", "aag 0 0 -0 0 0", "aag +0 0 0 0 0", "aag -1 -1 0 0 0", "aag 0 0 0 0 x", "aag a 0 0 0 0", "aag 0x1 1 0 0 0", "aag 1. 1 0 0 0", "aag 0 0 0 0 0\x00",
		"aag 1 0 0 0 0", "aag 0 1 0 0 0", "aag 0 0 0 0 1", "aag 2 1 0 0 0", "aag 2 1 0 0 2", "aag 1 1 0 0 1", "aag 3 2 0 0 2", "aag 999999999 999999999 0 0 1",
		"aag 1000000000 1000000000 0 0 0", "aag 1000000000 0 0 0 1000000000", "aag 1000000000 999999999 0 0 1", "aag 0 0 0 1000000000 0",
		"aag 1073741823 1073741823 0 0 0", "aag 1073741824 1073741824 0 0 0", "aag 1073741824 1 0 0 0", "aag 4294967296 0 0 0 0", "aag 4294967297 4294967297 0 0 0", "aag 0 0 0 4294967296 0", "aag 18446744073709551616 0 0 0 0",
	} {
		refused(t, line, 1, api.ErrText)
		refused(t, line+"\n", 1, api.ErrText)
		refused(t, line+"\n2\n4\n", 1, api.ErrText)
	}
	refused(t, "aag 0 0 0 0 0", 1, api.ErrText) // no byte 10 behind it
	refused(t, "aag 1 1 0 0 0", 1, api.ErrText)
}

// TestParseOfGreatCounts: a first line that is right is no promise of what is to come.
func TestParseOfGreatCounts(t *testing.T) {
	refused(t, "aag 999999999 999999999 0 0 0\n", 2, api.ErrText)
	refused(t, "aag 999999999 999999999 0 0 0\n2\n4\n", 4, api.ErrText)
	refused(t, "aag 999999999 0 0 0 999999999\n", 2, api.ErrText)
	refused(t, "aag 999999999 0 0 0 999999999\n2 1 1\n4 3 0\n", 4, api.ErrText)
	refused(t, "aag 999999999 500000000 0 0 499999999\n2\n", 3, api.ErrText)
	refused(t, "aag 0 0 0 999999999 0\n1\n", 3, api.ErrText)
	refused(t, "aag 999999999 1 0 1 999999998\n2\n999999999\n", 4, api.ErrText)
}

// right is a text without a fault: the lines 2 and 3 are inputs, 4 and 5 roots, 6 and 7 gates.
const right = "aag 4 2 0 2 2\n2\n4\n9\n6\n6 2 4\n8 7 3\n"

// with: right, with another text for a line.
func with(line int, text string) string {
	lines := strings.SplitAfter(right, "\n")
	lines[line-1] = text
	return strings.Join(lines, "")
}

func TestParseFaultsOfLines(t *testing.T) {
	if g, roots, line, e := Parse(right); e != api.OK {
		t.Fatal(g, roots, line, e)
	}
	for _, x := range []struct {
		line  int
		texts string // lines, parted by a bar
	}{
		{2, "4|0|1|3|6|x|02|2 |" + " 2||2 4|2 2 2|2\t|+2|-2|2\r|2\x00|0000000002|1000000000|4294967298"},
		{3, "2|6|5|0|x|04|4 |" + " 4||4 6|-4|4\r|1000000000"},
		{4, "10|11|x|09|9 |" + " 9||9 9|-1|+9|1000000000|4294967296|4294967297|9\r|0x9|2 4 6|00"},
		{5, "10|999999999|1000000000|6 |" + " 6||6 6|06|a"},
		{6, "6 2 6|6 6 2|6 7 2|6 2 7|6 8 2|6 2 9|6 999999999 2|6 2 4294967296|7 2 4|8 2 4|4 2 4|5 2 4|0 2 4|6 2|6|6 2 4 4||6  2 4|6 2  4|6 2 4 |" + " 6 2 4|06 2 4|6 02 4|6 2 04|6 -2 4|6 2 x|6\t2 4|x 2 4|6 1000000000 2|6 2 4\r"},
		{7, "8 8 2|8 2 8|8 9 2|8 2 9|6 7 3|10 7 3|8 7|8 7 3 |8 7 03|8 10 3|x"},
	} {
		for _, text := range strings.Split(x.texts, "|") {
			refused(t, with(x.line, text+"\n"), x.line, api.ErrText)
		}
		refused(t, with(x.line, "\n"), x.line, api.ErrText)
	}
	for _, x := range []string{with(4, "0\n"), with(4, "8\n"), with(5, "9\n"), with(6, "6 5 5\n"), with(6, "6 0 1\n"), with(7, "8 2 7\n"), with(7, "8 7 7\n")} {
		if _, _, line, e := Parse(x); e != api.OK || line != 0 {
			t.Errorf("%q: %d at %d", x, e, line)
		}
	}
}

// TestParseOfAPiece: each text that is cut off somewhere is refused, at its last line, or at the one behind it.
func TestParseOfAPiece(t *testing.T) {
	for n := range len(right) {
		refused(t, right[:n], 1+strings.Count(right[:n], "\n"), api.ErrText)
	}
}

func TestParseOfSomethingBehind(t *testing.T) {
	for _, more := range []string{"\n", " ", "x", "x\n", "10 2 4\n", "10 2 4", "c\n", "\n\n", "\x00", right} {
		refused(t, right+more, 8, api.ErrText)
		refused(t, "aag 0 0 0 0 0\n"+more, 2, api.ErrText)
		refused(t, "aag 1 1 0 0 0\n2\n"+more, 3, api.ErrText)
	}
}

// TestParseTellsTheFirstFault: of several.
func TestParseTellsTheFirstFault(t *testing.T) {
	refused(t, "aag 1 0 0 0 0\nx\n", 1, api.ErrText)
	refused(t, "aag 1 1 0 1 0\n4\n99\n", 2, api.ErrText)
	refused(t, "aag 2 1 0 1 1\n2\n99\n4 4 4\n", 3, api.ErrText)
	refused(t, "aag 3 1 0 0 2\n2\n4 4 4\n6 6 6\n", 3, api.ErrText)
	refused(t, "aag 3 1 0 0 2\n2\n4 2 2\n6 6 6\nx\n", 4, api.ErrText)
	refused(t, "aag 2 2 0 0 0\n2\n6\n\n", 3, api.ErrText)
	refused(t, "aag 2 1 0 1 1\n2\n4 2 2\n", 3, api.ErrText) // the root's line is missing
	refused(t, "aag 2 1 0 1 1\n4\n4 2 2\n2\n", 2, api.ErrText)
}
