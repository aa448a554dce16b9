package lang

import (
	"regexp"
	"slices"
	"strconv"
	"strings"
	"testing"

	"cadence/api"
)

// chapterGrammar: as it stands in the chapter. What is here reads it as data, and goes through texts by all of its ways at once, so that the first token with which nothing goes on is found without any choice of a parser.
const chapterGrammar = `
program = "program" name ";" { "width" number ";" | "line" number ";" } { decl } "begin" { stmt } "end"
decl    = ("public" | "secret" | "var" | "out") name [ "[" number "]" ] ";"
        | "const" name "[" number "]" "=" number { "," number } ";"
stmt    = name "=" expr ";" | name "[" expr "]" "=" expr ";"
        | "if" expr block [ "else" block ] | "for" name number number block | "release" name ";"
block   = "{" { stmt } "}"
expr    = or { ("==" | "!=" | "<" | "<=" | ">" | ">=") or }
or      = xor { "|" xor }
xor     = and { "^" and }
and     = shift { "&" shift }
shift   = sum { ("<<" | ">>" | "<<<" | ">>>") sum }
sum     = product { ("+" | "-") product }
product = unary { ("*" | "/" | "%") unary }
unary   = ("~" | "-") unary | primary
primary = number | name [ "[" expr "]" ] | "(" expr ")"
        | ("sar" | "slt") "(" expr "," expr ")" | "sel" "(" expr "," expr "," expr ")"
`

// grammar: for each rule its ways, each a list of symbols: a rule, or a token with a quote ahead.
type grammar struct {
	ways map[string][][]string
	left []string // what is not read of the chapter's text
	made int
}

func readGrammar() *grammar {
	g := &grammar{ways: map[string][][]string{}}
	g.left = regexp.MustCompile(`"[^"]*"|[a-z]+|[{}\[\]()|=]`).FindAllString(chapterGrammar, -1)
	for len(g.left) > 0 {
		rule := g.left[0]
		g.left = g.left[2:]
		g.ways[rule] = g.choice()
	}
	return g
}

// choice reads ways with | between.
func (g *grammar) choice() [][]string {
	var ways [][]string
	way := []string{}
	for len(g.left) > 0 {
		next := g.left[0]
		if strings.Contains("}])", next) || len(g.left) > 1 && g.left[1] == "=" {
			break
		}
		g.left = g.left[1:]
		switch {
		case next == "|":
			ways, way = append(ways, way), []string{}
		case strings.Contains("{[(", next):
			inner := g.choice()
			g.left = g.left[1:]
			way = append(way, g.group(next, inner))
		case next[0] == '"':
			way = append(way, "'"+strings.Trim(next, `"`))
		case next == "name" || next == "number":
			way = append(way, "'"+next)
		default:
			way = append(way, next)
		}
	}
	return append(ways, way)
}

// group: a rule of its own for what stands in brackets of the grammar.
func (g *grammar) group(bracket string, inner [][]string) string {
	g.made++
	rule := "group" + strconv.Itoa(g.made)
	switch bracket {
	case "{":
		g.ways[rule] = [][]string{{}}
		for _, way := range inner {
			g.ways[rule] = append(g.ways[rule], append([]string{rule}, way...))
		}
	case "[":
		g.ways[rule] = append([][]string{{}}, inner...)
	default:
		g.ways[rule] = inner
	}
	return rule
}

// item: a way of a rule, gone as far as at, begun ahead of the token of a number.
type item struct {
	rule          string
	way, at, from int
}

// sets: which items are there ahead of each token.
type sets struct {
	g     *grammar
	lists [][]item
	have  []map[item]bool
}

func (s *sets) add(i int, x item) {
	for len(s.lists) <= i {
		s.lists = append(s.lists, nil)
		s.have = append(s.have, map[item]bool{})
	}
	if !s.have[i][x] {
		s.have[i][x] = true
		s.lists[i] = append(s.lists[i], x)
	}
}

// grow goes on with the items ahead of the token i.
func (s *sets) grow(i int, class string) {
	for k := 0; k < len(s.lists[i]); k++ {
		x := s.lists[i][k]
		way := s.g.ways[x.rule][x.way]
		if x.at == len(way) {
			s.finish(i, x)
			continue
		}
		symbol := way[x.at]
		if symbol[0] == '\'' {
			if symbol[1:] == class {
				s.add(i+1, item{x.rule, x.way, x.at + 1, x.from})
			}
			continue
		}
		for n, inner := range s.g.ways[symbol] {
			s.add(i, item{symbol, n, 0, i})
			if len(inner) == 0 {
				s.add(i, item{x.rule, x.way, x.at + 1, x.from})
			}
		}
	}
}

func (s *sets) finish(i int, x item) {
	for k := 0; k < len(s.lists[x.from]); k++ {
		y := s.lists[x.from][k]
		way := s.g.ways[y.rule][y.way]
		if y.at < len(way) && way[y.at] == x.rule {
			s.add(i, item{y.rule, y.way, y.at + 1, y.from})
		}
	}
}

// firstFault: the first token with which no text that goes on like that is of the grammar; the number of tokens, if the end is too early; -1, if there is none.
func (g *grammar) firstFault(classes []string) int {
	s := &sets{g: g}
	for n := range g.ways["program"] {
		s.add(0, item{"program", n, 0, 0})
	}
	for i, c := range append(slices.Clone(classes), "") {
		if i == len(s.lists) {
			return i - 1
		}
		s.grow(i, c)
	}
	for x := range s.have[len(classes)] {
		if x.rule == "program" && x.from == 0 && x.at == len(g.ways["program"][x.way]) {
			return -1
		}
	}
	return len(classes)
}

// piece: a token of a text, with its line.
type piece struct {
	text  string
	line  int
	class string // name, number, or the text itself
	num   uint64
}

// pieces: the tokens of a text and the line of the end, or the line of the first thing that is none.
func pieces(text string) (list []piece, line int, fine bool) {
	blanks := regexp.MustCompile(`^(?s:[\t\n\r ]|//[^\n]*)+`)
	words := regexp.MustCompile(`^(?:[A-Za-z_][A-Za-z_0-9]*|[0-9][A-Za-z_0-9]*|<<<|>>>|<<|>>|<=|>=|==|!=|[<>=+\-*/%&^|~()\[\]{},;])`)
	number := regexp.MustCompile(`^(?:[0-9]+|0x[0-9a-fA-F]+)$`)
	line = 1
	for {
		gap := blanks.FindString(text)
		text = text[len(gap):]
		line += strings.Count(gap, "\n")
		if text == "" {
			return list, line, true
		}
		s := words.FindString(text)
		p := piece{text: s, line: line, class: s}
		switch {
		case s == "" || len(s) > 24 && !number.MatchString(s):
			return nil, line, false
		case s[0] >= '0' && s[0] <= '9':
			n, err := strconv.ParseUint(strings.TrimPrefix(s, "0x"), map[bool]int{true: 16, false: 10}[strings.HasPrefix(s, "0x")], 64)
			if !number.MatchString(s) || err != nil {
				return nil, line, false
			}
			p.class, p.num = "number", n
		case wordLike(s[0]) && !slices.Contains(reservedWords(), s):
			p.class = "name"
		}
		list = append(list, p)
		text = text[len(s):]
	}
}

// firstForbidden: the first token that the grammar lets pass, but what is said beside it does not: a second width or line, and numbers out of their bounds; the number of tokens, if there is none.
func firstForbidden(list []piece) int {
	seen := map[string]bool{}
	for i, p := range list {
		if (p.text == "width" || p.text == "line") && seen[p.text] {
			return i
		}
		seen[p.text] = true
		if p.class != "number" || i < 3 {
			continue
		}
		if (list[i-1].text == "width" || list[i-1].text == "line") && p.num > 1<<63-1 {
			return i
		}
		ofDecl := list[i-1].text == "[" && slices.Contains(strings.Fields("public secret var out const"), list[i-3].text)
		if ofDecl && (p.num < 1 || p.num > 1<<63-1) {
			return i
		}
	}
	return len(list)
}

// firstDeep: the first token that is opened within 256 others.
func firstDeep(list []piece) int {
	var open []string
	operand := func() { // one has ended, and with it what stands ahead of it
		for len(open) > 0 && open[len(open)-1] == "unary" {
			open = open[:len(open)-1]
		}
	}
	for i, p := range list {
		opened := ""
		switch {
		case strings.Contains("([{", p.text):
			opened = p.text
		case p.text == "~":
			opened = "unary"
		case p.text == "-" && !slices.Contains([]string{"name", "number", ")", "]"}, list[i-1].class):
			opened = "unary"
		case strings.Contains(")]}", p.text):
			open = open[:len(open)-1]
			operand()
		case p.class == "number", p.class == "name" && (i+1 == len(list) || list[i+1].text != "["):
			operand()
		}
		if opened == "" {
			continue
		}
		if len(open) == 256 {
			return i
		}
		open = append(open, opened)
	}
	return len(list)
}

// plainFault: what Parse must answer of a text beside the program: a line and an error.
func (g *grammar) plainFault(text string) (int, api.Errno) {
	list, line, fine := pieces(text)
	if !fine {
		return line, api.ErrToken
	}
	classes := make([]string, len(list))
	for i, p := range list {
		classes[i] = p.class
	}
	at := g.firstFault(classes)
	right := at < 0
	if right {
		at = len(list)
	}
	fault := min(at, firstForbidden(list[:at]))
	if deep := firstDeep(list[:at]); deep < fault {
		return list[deep].line, api.ErrDeep
	}
	switch {
	case fault < len(list):
		return list[fault].line, api.ErrSyntax
	case !right:
		return line, api.ErrSyntax
	}
	return 0, api.OK
}

// checkAgainst: Parse tells of a text what the grammar tells of it.
func (g *grammar) checkAgainst(t *testing.T, text string) api.Errno {
	t.Helper()
	line, e := g.plainFault(text)
	if e == api.OK {
		parsed(t, text)
	} else {
		refused(t, text, line, e)
	}
	return e
}

// derive: any tokens that a symbol leads to; the deeper, the shorter the way.
func (g *grammar) derive(p *picker, symbol string, depth int) []string {
	switch symbol {
	case "'name":
		return []string{p.anyName()}
	case "'number":
		return []string{pickOf(p, "0", "1", "2", "4", "007", "0x10", "999", "0xFf", "9223372036854775807", "9223372036854775808", "0xffffffffffffffff")}
	}
	if symbol[0] == '\'' {
		return []string{symbol[1:]}
	}
	ways := g.ways[symbol]
	way := ways[p.below(len(ways))]
	if depth <= 0 {
		way = ways[0]
		if symbol == "unary" {
			way = ways[1]
		}
	}
	var out []string
	for _, x := range way {
		out = append(out, g.derive(p, x, depth-1)...)
	}
	return out
}

// TestGrammarOracle: what is held against Parse below finds what is known by hand (P1501).
func TestGrammarOracle(t *testing.T) {
	g := readGrammar()
	rows := []struct {
		text string
		line int
		e    api.Errno
	}{
		{"program p; begin end", 0, api.OK},
		{"program p; begin x = 1 end", 1, api.ErrSyntax},
		{"program p;\nbegin\n$ end", 3, api.ErrToken},
		{"", 1, api.ErrSyntax},
		{"\n\n", 3, api.ErrSyntax},
		{"program\np\n;\nwidth 8;\nwidth 8; begin end", 5, api.ErrSyntax},
		{"program p; var a[\n0]; begin end", 2, api.ErrSyntax},
		{"program p; begin x = a +\n* b; end", 2, api.ErrSyntax},
		{"program p; begin x = ~ - sel(a, b[1], (c)) <<< 2 * -3; end", 0, api.OK},
		{"program p; begin if x { } else { } if 1\nelse { } end", 2, api.ErrSyntax},
		{"program p; begin x = " + strings.Repeat("~", 256) + "\n~a; end", 2, api.ErrDeep},
		{"program p; begin x = " + strings.Repeat("~", 256) + "a + ~b; end", 0, api.OK},
	}
	for _, r := range rows {
		line, e := g.plainFault(r.text)
		is(t, r.text, []int{line, int(e)}, []int{r.line, int(r.e)})
	}
}

// TestGrammar: texts of the grammar, and such with tokens changed, are read or refused at the token where the grammar does (P1501).
func TestGrammar(t *testing.T) {
	g := readGrammar()
	p := picker(15)
	words := append(append(reservedWords(), allSigns()...), "a", "b", "0", "1", "9223372036854775808", "$", "0x", "!", "abcdefghijklmnopqrstuvwxy")
	count := map[api.Errno]int{}
	for range 6000 {
		tokens := g.derive(&p, "program", 14)
		if len(tokens) > 90 {
			continue
		}
		for range p.below(3) {
			at := p.below(len(tokens))
			word := pickOf(&p, words...)
			switch p.below(5) {
			case 0:
				tokens = slices.Delete(tokens, at, at+1)
			case 1:
				tokens = slices.Insert(tokens, at, word)
			case 2:
				tokens[at] = word
			case 3:
				other := p.below(len(tokens))
				tokens[at], tokens[other] = tokens[other], tokens[at]
			case 4:
				tokens = tokens[:at+1]
			}
			if len(tokens) == 0 {
				tokens = []string{word}
			}
		}
		count[g.checkAgainst(t, p.spread(tokens))]++
	}
	if count[api.OK] < 500 || count[api.ErrSyntax] < 500 || count[api.ErrToken] < 100 {
		t.Fatal("too few of some kind: ", count)
	}
}

// TestGrammarDeep: the same where nearly as much is open as may be (P1501).
func TestGrammarDeep(t *testing.T) {
	g := readGrammar()
	p := picker(16)
	count := map[api.Errno]int{}
	for range 120 {
		depth := 253 + p.below(5)
		blocks := p.below(depth + 1)
		var tokens []string
		tokens = append(tokens, "program", "p", ";", "begin")
		for range blocks {
			tokens = append(tokens, pickOf(&p, []string{"if", "a"}, []string{"for", "i", "0", "2"}, []string{"if", "a", "{", "}", "else"})...)
			tokens = append(tokens, "{")
		}
		inner := g.derive(&p, "stmt", 12)
		if p.below(3) > 0 {
			inner = append([]string{"x", "="}, p.nestedTokens(depth-blocks, g.derive(&p, "expr", 10))...)
			inner = append(inner, ";")
		}
		tokens = append(tokens, inner...)
		for range blocks {
			tokens = append(tokens, "}")
		}
		tokens = append(tokens, "end")
		if p.below(4) == 0 {
			at := p.below(len(tokens))
			tokens[at] = pickOf(&p, append(allSigns(), "a", "1", "if")...)
		}
		if len(tokens) < 2000 {
			count[g.checkAgainst(t, p.spread(tokens))]++
		}
	}
	if count[api.OK] < 20 || count[api.ErrDeep] < 20 || count[api.ErrSyntax] < 5 {
		t.Fatal("too few of some kind: ", count)
	}
}

// nestedTokens: an expression within so many signs that are open.
func (p *picker) nestedTokens(depth int, inner []string) []string {
	var ahead, behind []string
	for range depth {
		switch p.below(6) {
		case 0:
			ahead, behind = append(ahead, "("), append(behind, ")")
		case 1:
			ahead, behind = append(ahead, "t", "["), append(behind, "]")
		case 2:
			ahead, behind = append(ahead, "sel", "(", "1", ",", "~", "b", ","), append(behind, ")")
		case 3:
			ahead, behind = append(ahead, "(", "a", "*"), append(behind, ")")
		default:
			ahead = append(ahead, pickOf(p, "~", "-"))
		}
	}
	slices.Reverse(behind)
	return slices.Concat(ahead, inner, behind)
}
