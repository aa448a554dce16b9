package lang

import (
	"strings"
	"testing"

	"cadence/api"
)

// TestThereAndBack: many trees are told, and read as they were (P1503, P1505).
func TestThereAndBack(t *testing.T) {
	p := picker(5)
	for range 3000 {
		made := p.anyProgram()
		text := printed(t, made)
		is(t, "the text", text, plainText(made))
		back := parsed(t, text)
		if !sameProgram(back, made) {
			t.Fatalf("%s is read as %+v", text, back)
		}
		is(t, "told again", printed(t, back), text)
	}
}

// TestManyTexts: a text with its blanks changed, with comments, with brackets more, with what is usual told, has the same tree and the same Print (P1501, P1505).
func TestManyTexts(t *testing.T) {
	p := picker(6)
	for range 1500 {
		made := p.anyProgram()
		want := printed(t, made)
		for range 4 {
			extra := never
			if p.below(3) > 0 {
				extra = func() bool { return p.below(4) == 0 }
			}
			text := p.spread(looseTokens(made, extra))
			read := parsed(t, text)
			if !sameProgram(read, made) {
				t.Fatalf("%q is read as %+v, not %+v", text, read, made)
			}
			is(t, text, printed(t, read), want)
		}
		is(t, "tight", printed(t, parsed(t, tight(want))), want)
	}
}

// tight: a text without the blanks that are not needed, and without its lines.
func tight(text string) string {
	list, _, _ := pieces(text)
	var b strings.Builder
	last := ""
	for _, x := range list {
		if last != "" && wordLike(last[0]) && wordLike(x.text[0]) {
			b.WriteString(" ")
		}
		b.WriteString(x.text)
		last = x.text
	}
	return b.String()
}

// TestPrintOfParse: any text that Parse reads has a text that is read as the same program, and whose Print it is (P1505).
func TestPrintOfParse(t *testing.T) {
	g := readGrammar()
	p := picker(7)
	count := 0
	for range 4000 {
		text := p.spread(g.derive(&p, "program", 16))
		read, _, e := Parse(text)
		if e != api.OK {
			continue
		}
		count++
		again := printed(t, read)
		is(t, "the text", again, plainText(read))
		back := parsed(t, again)
		if !sameProgram(back, read) {
			t.Fatalf("%q and %q have unlike trees", text, again)
		}
		is(t, "told again", printed(t, back), again)
	}
	if count < 500 {
		t.Fatal("too few: ", count)
	}
}

// TestDeepBack: what Parse reads is never too deep for Print, whatever brackets it had (P1505).
func TestDeepBack(t *testing.T) {
	p := picker(8)
	for range 200 {
		blocks := p.below(257)
		body := strings.Repeat("if (((1))) {", blocks) + "x = " + strings.Join(p.nestedTokens(p.below(257-blocks), []string{"a", "-", "b"}), " ") + ";" + strings.Repeat("}", blocks)
		if blocks > 253 {
			body = strings.ReplaceAll(body, "(((1)))", "1")
		}
		read := parsed(t, inBody(body))
		if !sameProgram(parsed(t, printed(t, read)), read) {
			t.Fatal("another tree of ", shown(body))
		}
	}
}
