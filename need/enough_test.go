package need

import (
	"fmt"
	"math"
	"strconv"
	"strings"
	"testing"

	"cadence/api"
)

// oneCounter: one of the four that a budget bounds.
type oneCounter struct {
	name   string
	need   func(n *api.Need) *string
	budget func(b *api.Budget) *int64
}

func fourCounters() []oneCounter {
	return []oneCounter{
		{"Paths", func(n *api.Need) *string { return &n.Paths }, func(b *api.Budget) *int64 { return &b.Paths }},
		{"Terms", func(n *api.Need) *string { return &n.Terms }, func(b *api.Budget) *int64 { return &b.Terms }},
		{"Clauses", func(n *api.Need) *string { return &n.Clauses }, func(b *api.Budget) *int64 { return &b.Clauses }},
		{"Decisions", func(n *api.Need) *string { return &n.Decisions }, func(b *api.Budget) *int64 { return &b.Decisions }},
	}
}

// some: a need, and a budget that is just enough for it.
func some() (api.Need, api.Budget) {
	return told("4 14 3 2848 12285 1088"), api.Budget{Paths: 4, Terms: 14, Clauses: 2848, Decisions: 12285}
}

// enoughIs: with a number of a need, and of a budget, the other three being just enough, and being without a bound.
func enoughIs(t testing.TB, c oneCounter, text string, budget int64, want bool) {
	t.Helper()
	n, b := some()
	*c.need(&n), *c.budget(&b) = text, budget
	free := api.Budget{Paths: -1, Terms: -1, Clauses: -1, Decisions: -1}
	*c.budget(&free) = budget
	if Enough(n, b) != want || Enough(n, free) != want {
		t.Fatalf("%s %q with %d: %v and %v, not %v", c.name, cut(text), budget, Enough(n, b), Enough(n, free), want)
	}
}

// budgets: bounds at which something turns, all not below 0.
func budgets() []int64 {
	return []int64{0, 1, 2, 9, 10, 4096, 1 << 31, 1 << 32, 1<<53 + 1, math.MaxInt64 - 1, math.MaxInt64}
}

// TestEnough: each of the four, against all kinds of budgets (P2002).
func TestEnough(t *testing.T) {
	n, b := some()
	is(t, "just enough", Enough(n, b), true)
	is(t, "all numbers one greater", Enough(n, api.Budget{Paths: 5, Terms: 15, Clauses: 2849, Decisions: 12286}), true)
	is(t, "no bounds", Enough(n, api.Budget{Paths: -1, Terms: -9, Clauses: math.MinInt64, Decisions: -1}), true)
	is(t, "nothing", Enough(n, api.Budget{}), false)
	is(t, "no need", Enough(told("0 0 0 0 0 0"), api.Budget{}), true)
	for _, c := range fourCounters() {
		for _, need := range budgets() {
			text := strconv.FormatInt(need, 10)
			for _, budget := range budgets() {
				enoughIs(t, c, text, budget, budget >= need)
			}
			for _, budget := range []int64{-1, -2, -need - 1, math.MinInt64, math.MinInt64 + 1} {
				enoughIs(t, c, text, budget, true)
			}
			enoughIs(t, c, text, need, true)
			enoughIs(t, c, text, max(need-1, 0), need == 0)
		}
	}
}

// TestEachCounts: one number that is not enough, and the other three are, decides; so do several (P2002).
func TestEachCounts(t *testing.T) {
	for short := range 16 {
		n, b := some()
		for i, c := range fourCounters() {
			if short>>i&1 == 1 {
				*c.budget(&b)--
			}
		}
		is(t, fmt.Sprint("one below: ", b), Enough(n, b), short == 0)
	}
	four := fourCounters()
	for i, c := range four { // no number is held against another one's
		n, b := told("7 7 7 7 7 7"), api.Budget{Paths: 7, Terms: 7, Clauses: 7, Decisions: 7}
		for _, other := range four {
			if other.name != c.name {
				*other.need(&n), *other.budget(&b) = "8", 8
			}
		}
		is(t, c.name, Enough(n, b), true)
		*four[(i+1)%4].need(&n) = "9"
		is(t, "beside "+c.name, Enough(n, b), false)
	}
}

// greatTexts: decimal numbers beyond all bounds.
func greatTexts() []string {
	return []string{
		"9223372036854775808", "9999999999999999999", "10000000000000000000", "18446744073709551615", "18446744073709551616", "18446744073709551617", "18446744073709551620",
		"36893488147419103232", "340282366920938463463374607431768211456", "1" + strings.Repeat("0", 100), strings.Repeat("9", 1000),
		"1" + strings.Repeat("0", 1<<20), strings.Repeat("9", 1<<24), strings.Repeat("0", 30) + "9223372036854775808",
	}
}

// TestGreatNumbers: as great as they come (P2002, P2003).
func TestGreatNumbers(t *testing.T) {
	for _, c := range fourCounters() {
		enoughIs(t, c, "9223372036854775807", math.MaxInt64, true)
		enoughIs(t, c, "9223372036854775807", math.MaxInt64-1, false)
		for _, text := range greatTexts() {
			for _, budget := range []int64{0, 1, 4, math.MaxInt64} {
				enoughIs(t, c, text, budget, false)
			}
			enoughIs(t, c, text, -1, true)
		}
	}
	for _, text := range greatTexts() {
		is(t, "Roomy", Roomy(api.Need{Room: text}), false)
	}
}

// TestZerosAhead: they count nothing (P2002, P2003).
func TestZerosAhead(t *testing.T) {
	for _, zeros := range []int{1, 2, 18, 19, 20, 100, 1 << 20} {
		ahead := strings.Repeat("0", zeros)
		for _, c := range fourCounters() {
			enoughIs(t, c, ahead, 0, true)
			enoughIs(t, c, ahead+"7", 7, true)
			enoughIs(t, c, ahead+"7", 6, false)
			enoughIs(t, c, ahead+"10", 8, false) // no number of eight
			enoughIs(t, c, ahead+"9223372036854775807", math.MaxInt64, true)
			enoughIs(t, c, ahead+"9223372036854775808", math.MaxInt64, false)
		}
		is(t, "Roomy", []bool{Roomy(api.Need{Room: ahead}), Roomy(api.Need{Room: ahead + "1044480"}), Roomy(api.Need{Room: ahead + "1044481"})}, []bool{true, true, false})
	}
}

// noNumbers: texts that are no decimal numbers.
func noNumbers() []string {
	texts := []string{
		"", "x", "+1", "-1", "+0", "-0", "-", "+", " 1", "1 ", " ", "1 1", "\t1", "1\n", "\n", "1\x00", "\x00", "1_0", "_1", "1_", "1__0", "0x1", "0X1", "0b1", "0o1", "1e1", "1e0", "1E2",
		"1.0", "1.", ".1", "1,0", "1'0", "0a", "a0", "f", "inf", "nan", "1n", "<nil>", "00+1", "0-1", "0 ", "0_0", "--1", "(1)", "\"1\"", "/", ":", "1/1", "1:", "\xff", "1\xff", "\xff1",
		"\uff11", "\uff10", "1\uff11", "\u0661", "\u06f1", "\u0967", "\u09e7", "\U0001d7cf", "\u00b2", "\u00bd", "\u2460", "\u4e00", "\u3007", "\ufeff1", "1\u00a0", "\u20031", "\u22121",
		strings.Repeat("1", 100) + "x", strings.Repeat("0", 100) + "x", "x" + strings.Repeat("0", 100), strings.Repeat("0", 1<<20) + "_1",
	}
	for b := range 256 { // each byte that is no digit: alone, ahead of one, behind one, between two
		if c := string([]byte{byte(b)}); b < '0' || b > '9' {
			texts = append(texts, c, c+"0", "0"+c, "0"+c+"0")
		}
	}
	return texts
}

// TestNoNumbers: any other text counts as greater than all (P2002, P2003).
func TestNoNumbers(t *testing.T) {
	for _, text := range noNumbers() {
		for _, c := range fourCounters() {
			for _, budget := range []int64{0, 1, 99, math.MaxInt64} {
				enoughIs(t, c, text, budget, false)
			}
			for _, budget := range []int64{-1, -2, math.MinInt64} {
				enoughIs(t, c, text, budget, true) // no bound, not even for that
			}
		}
		if Roomy(api.Need{Room: text}) {
			t.Fatalf("Roomy at %q", cut(text))
		}
	}
}

// TestNotLookedAt: Enough looks at neither Room nor Queries, Roomy at Room alone (P2002, P2003).
func TestNotLookedAt(t *testing.T) {
	for _, text := range append(noNumbers(), greatTexts()...) {
		n, b := some()
		n.Room, n.Queries = text, text
		is(t, "Enough", Enough(n, b), true)
		b.Terms--
		is(t, "Enough", Enough(n, b), false)
		is(t, "Roomy", Roomy(api.Need{Paths: text, Terms: text, Queries: text, Clauses: text, Decisions: text, Room: "0"}), true)
	}
	is(t, "nothing", []bool{Enough(api.Need{}, api.Budget{}), Enough(api.Need{}, api.Budget{Paths: -1, Terms: -1, Clauses: -1, Decisions: -1}), Roomy(api.Need{})}, []bool{false, true, false})
}

// TestRoomy: just at what a formula may have, and beyond it (P2003).
func TestRoomy(t *testing.T) {
	for text, want := range map[string]bool{
		"0": true, "1": true, "4096": true, "811616": true, "999999": true, "1044479": true, "1044480": true,
		"1044481": false, "1044490": false, "1048575": false, "1048576": false, "1048577": false, "1052672": false, "2000000": false, "4294967296": false, "5340011776": false,
		"9223372036854775807": false, "18446744073709551616": false, "18446744073709547520": false, "18446744073710596096": false, "18446744073708507136": false,
	} {
		is(t, text, Roomy(api.Need{Room: text}), want)
	}
}

// TestRoomyCode: code whose greatest query just has room, and with one instruction more (P2003).
func TestRoomyCode(t *testing.T) {
	var code []api.Ins
	for range 8150 {
		code = append(code, ins(api.EAnd))
	}
	code = append(code, ins(api.FRelease), branch(nil, nil), branch(nil, nil))
	n := codeNeed(t, base(4, code...))
	is(t, "just at it", []any{n.Room, Roomy(n)}, []any{1044480, true})
	n = codeNeed(t, base(4, append(list(ins(api.ECom)), code...)...))
	is(t, "an instruction without gates more", []any{n.Room, Roomy(n)}, []any{1044480, true})
	n = codeNeed(t, base(4, append(list(ins(api.EAnd)), code...)...))
	is(t, "one with gates", []any{n.Room, Roomy(n)}, []any{1044608, false})
	n = codeNeed(t, base(4, append(code, ins(api.EAnd))...))
	is(t, "one with gates behind all", []any{n.Room, Roomy(n)}, []any{1044480, true})
}

// TestOwnNeeds: what Code answers is enough as a budget, and one less in any number is not (P2001, P2002).
func TestOwnNeeds(t *testing.T) {
	for _, code := range [][]api.Ins{nil, list(ins(api.EAdd)), list(ins(api.EDiv)), list(branch(list(ins(api.EDiv)), nil), load(table(4)), branch(nil, nil))} {
		n := codeNeed(t, base(4, code...))
		var b api.Budget
		for _, c := range fourCounters() {
			*c.budget(&b) = natural(t, *c.need(&n)).Int64()
		}
		is(t, "its own numbers", Enough(n, b), true)
		for _, c := range fourCounters() {
			if less := b; *c.budget(&less) > 0 {
				*c.budget(&less)--
				is(t, "one less of "+c.name, Enough(n, less), false)
			}
			more := b
			*c.budget(&more)++
			is(t, "one more of "+c.name, Enough(n, more), true)
		}
	}
	n := codeNeed(t, base(64, ins(api.EDiv)))
	is(t, "beyond all budgets", Enough(n, api.Budget{Paths: -1, Terms: -1, Clauses: -1, Decisions: math.MaxInt64}), false)
}
