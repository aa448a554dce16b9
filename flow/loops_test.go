package flow

import (
	"fmt"
	"strings"
	"testing"
)

const loopHead = "secret k; secret l; out x; out y; out z; var a[4]; "

// loopIs: what x, y, z hang on behind statements, as "k - k l"; a * stands for a loop's bounds.
func loopIs(t testing.TB, body string, rounds int, want string) {
	t.Helper()
	body = strings.ReplaceAll(body, "*", fmt.Sprint("3 ", 3+rounds))
	p := parsed(t, loopHead+"begin "+body+" end")
	ends := endsOf(t, p)
	is(t, body, told(p, ends[2])+", "+told(p, ends[3])+", "+told(p, ends[4]), want)
}

// TestRounds: a loop that is done no time, once, twice, more often than something new comes, less often than it would take.
func TestRounds(t *testing.T) {
	for _, r := range []struct {
		body string
		want []string // by how often it is done; the last one for all above
	}{
		{"for i * { x = k; }", []string{"-, -, -", "k, -, -"}},
		{"for i * { z = y; y = x; x = k; }", []string{"-, -, -", "k, -, -", "k, k, -", "k, k, k"}},
		{"for i * { x = k; y = x; z = y; }", []string{"-, -, -", "k, k, k"}},
		{"x = k; y = l; for i * { z = y; y = x; x = 0; }", []string{"k, l, -", "-, k, l", "-, k, k l"}},
		{"for i * { x = sel(x, k, 1); z = x; y = z; }", []string{"-, -, -", "k, k, k"}},
		{"for i * { if x { z = y; } else { y = l; } x = 1; }", []string{"-, -, -", "-, l, -", "-, l, l"}},
		{"x = k; for i * { y = x; x = l; }", []string{"k, -, -", "l, k, -", "l, k l, -"}},
		{"x = k; for i * { release x; y = x; }", []string{"k, -, -", "-, -, -"}},
		{"x = k; for i * { y = x; release x; }", []string{"k, -, -", "-, k, -"}},
		{"x = k; y = k; z = k; for i * { x = 1; }", []string{"k, k, k", "-, k, k"}},
		{"for i * { }", []string{"-, -, -"}},
		{"z = l; for i * { x = a[0]; a[1] = k; }", []string{"-, -, l", "-, -, l", "k, -, l"}},
		{"for i * { y = a[x]; x = k; }", []string{"-, -, -", "k, -, -", "k, k, -"}},
	} {
		for rounds := range 12 {
			loopIs(t, r.body, rounds, r.want[min(rounds, len(r.want)-1)])
		}
		loopIs(t, r.body, 1000, r.want[len(r.want)-1])
	}
}

// TestAhead: what stands behind a loop, against what stood ahead of it: what each round sets is forgotten, what it does not touch stays.
func TestAhead(t *testing.T) {
	for _, rounds := range []int{1, 2, 3, 50} {
		loopIs(t, "x = k; for i * { x = 1; }", rounds, "-, -, -")
		loopIs(t, "x = k; for i * { y = 1; }", rounds, "k, -, -")
		loopIs(t, "x = k; y = k; for i * { x = l; }", rounds, "l, k, -")
		loopIs(t, "x = k; for i * { x = x + l; }", rounds, "k l, -, -")
		loopIs(t, "x = k; for i * { if i { x = l; } }", rounds, "k l, -, -")
	}
	for _, rounds := range []int{2, 3, 50} { // with what is ahead of it, or behind what was gone through last
		loopIs(t, "x = k; for i * { y = x; x = 1; }", rounds, "-, k, -")
		loopIs(t, "x = k; for i * { y = x; x = l; z = y; }", rounds, "l, k l, k l")
	}
	loopIs(t, "x = k; for i * { y = x; x = l; z = y; }", 1, "l, k, k")
	loopIs(t, "x = k; for i * { y = x; x = 1; } for j * { z = y; }", 5, "-, k, k")
}

// TestLoopsInLoops: words that are handed on from round to round, in each of them.
func TestLoopsInLoops(t *testing.T) {
	for _, r := range []struct {
		outer, inner int
		want         string
	}{
		{0, 5, "-, -, -"}, {5, 0, "k, -, -"}, {1, 1, "k, -, -"}, {1, 2, "k, -, -"}, {1, 9, "k, -, -"}, {2, 1, "k, k, -"}, {2, 2, "k, k, k"}, {3, 1, "k, k, k"}, {3, 3, "k, k, k"},
	} {
		text := fmt.Sprintf("for i 0 %d { for j 0 %d { z = y; y = x; } x = k; }", r.outer, r.inner)
		loopIs(t, text, 0, r.want)
		text = fmt.Sprintf("for i 0 %d { if i { for j 7 %d { z = y; y = x; } } x = k; }", r.outer, 7+r.inner)
		loopIs(t, text, 0, r.want)
	}
	// each of three loops hands one word on
	loopIs(t, "for g 0 2 { for h 0 1 { for i 0 9 { z = y; } y = x; } x = k; }", 0, "k, k, -")
	loopIs(t, "for g 0 2 { for h 0 2 { for i 0 1 { z = y; } y = x; } x = k; }", 0, "k, k, k")
	loopIs(t, "for g 0 3 { for h 0 1 { for i 0 1 { z = y; } y = x; } x = k; }", 0, "k, k, k")
	loopIs(t, "for g 0 3 { for h 0 2 { for i 0 1 { z = y; } y = x; } x = k; }", 0, "k, k, k")
	loopIs(t, "for g 0 3 { for h 0 2 { for i 0 0 { z = y; } y = x; } x = k; }", 0, "k, k, -")
	loopIs(t, "for g 0 1 { for h 0 9 { for i 0 9 { z = y; } y = x; } x = k; }", 0, "k, -, -")
	// high in a round of a round alone
	highIs(t, loopHead+"begin for i 0 2 { for j 0 2 { if z { } z = y; y = x; } x = k; } end", "")
	highIs(t, loopHead+"begin for i 0 2 { for j 0 3 { if z { } z = y; y = x; } x = k; } end", "z")
	highIs(t, loopHead+"begin for i 0 3 { for j 0 2 { if z { } z = y; y = x; } x = k; } end", "z")
}

// TestNeverGoneThrough: what stands in a loop that is done no time has no source, and is not high.
func TestNeverGoneThrough(t *testing.T) {
	for _, bounds := range []string{"0 0", "3 3", "255 255"} {
		text := loopHead + "begin for i " + bounds + " { if k { x = 1 / l; } a[k] = a[l]; for j 0 9 { x = k; } } if x { } z = 5 % l; end"
		p := parsed(t, text)
		is(t, text, highTold(t, p), "l")
		is(t, text, endsTold(t, p), "k: k, l: l, x: -, y: -, z: l, a: -")
		exprs := 0
		for place := range exprsOf(p) {
			if list := sourcesAt(t, p, place); len(list) > 0 && place < thingsOf(t, p)-3 {
				t.Fatalf("%s, at %d: %v", text, place, list)
			}
			exprs++
		}
		is(t, "expressions", exprs, 12)
	}
	// in a loop that is gone through it counts its places all the same
	highIs(t, loopHead+"begin for i 0 2 { for j 0 0 { if k { } if k + 1 { } } if l { } } end", "l")
	// far too much, if it were done
	p := parsed(t, "width 64; "+loopHead+"begin for i 5 5 { for j 0 0xffffffffffffffff { for g 0 0xffffffffffffffff { if k { } } } } if l { } end")
	is(t, "the last place", highOf(t, p), []int{thingsOf(t, p) - 1})
}

// chain: the head and the body of a program that hands k on by so many singles, one further each round.
func chain(n int) (head, body string) {
	head = "width 16; secret k; "
	for i := range n {
		head += fmt.Sprintf("var v%d; ", i)
	}
	for i := n - 1; i > 0; i-- {
		body += fmt.Sprintf("v%d = v%d; ", i, i-1)
	}
	return head, body + "v0 = k; "
}

// TestChain: by as many singles as there may be, and by as many as can be reached.
func TestChain(t *testing.T) {
	for n, times := range map[int][]int{255: {0, 1, 2, 3, 63, 64, 65, 126, 127}, 175: {1, 127, 128, 129, 174, 175, 176, 180}} {
		head, body := chain(n)
		for _, rounds := range times {
			p := parsed(t, fmt.Sprintf("%sbegin for i 0 %d { %s} end", head, rounds, body))
			for i, list := range endsOf(t, p)[1:] {
				is(t, fmt.Sprint(rounds, " rounds: v", i), told(p, list), map[bool]string{true: "k", false: "-"}[i < rounds])
			}
			if rounds < 2 || rounds > n {
				continue
			}
			p = parsed(t, fmt.Sprintf("%sbegin for i 0 %d { if v%d { } %s} end", head, rounds, rounds-1, body))
			is(t, "not yet", highTold(t, p), "")
			p = parsed(t, fmt.Sprintf("%sbegin for i 0 %d { if v%d { } %s} end", head, rounds, rounds-2, body))
			is(t, "in the last round", highTold(t, p), fmt.Sprint("v", rounds-2))
		}
	}
}
