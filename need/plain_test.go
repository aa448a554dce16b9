package need

import (
	"math/big"
	"strconv"
	"strings"

	"cadence/api"
)

// What stands here is a plain reading of the chapter: its table is read as a text, the ways are counted by themselves, and all that is told of what is reached is done word for word.

// tableText: the chapter's table.
const tableText = `
| ECom, FCopy | 2 | 0 | 0 |
| ENeg, EAdd, ESub | 2 | 20 W | 0 |
| EAnd, EXor, EOr | 2 | 8 W | 0 |
| EMul | 2 | 24 W W | 0 |
| EDiv, ERem | 2 | 48 W W + 80 W + 8 | 1 |
| EShl, EShr, ERol, ERor, ESar | 2 | 48 W | 0 |
| EEq to EGe, ESlt | 2 | 32 W | 0 |
| ESel | 2 | 24 W | 0 |
| FLoad | 2 * size | 8 W size + 80 | 1 |
| FStore | 2 * size | 8 W size + 80 size + 80 | 1 |
| FRelease | 2 | 12 W | 0 |
| FIf | 2 | 24 W + 8 | 1 |
`

// opNumbers: the operations by their names.
func opNumbers() map[string]int {
	numbers := map[string]int{}
	for i, name := range strings.Fields("ECom ENeg EMul EDiv ERem EAdd ESub EShl EShr ERol ERor EAnd EXor EOr EEq ENe ELt ELe EGt EGe ESar ESlt ESel") {
		numbers[name] = api.ECom + i
	}
	for i, name := range strings.Fields("FCopy FLoad FStore FIf FRelease") {
		numbers[name] = api.FCopy + i
	}
	return numbers
}

// plainTable: of each operation the texts of its t, g and q.
func plainTable() map[int][3]string {
	numbers, table := opNumbers(), map[int][3]string{}
	for line := range strings.Lines(tableText) {
		cells := strings.Split(strings.TrimSpace(line), "|")
		if len(cells) != 6 {
			continue
		}
		row := [3]string{cells[2], cells[3], cells[4]}
		for _, part := range strings.Split(cells[1], ",") {
			first, last, is := strings.Cut(strings.TrimSpace(part), " to ")
			if !is {
				last = first
			}
			for op := numbers[first]; op <= numbers[last]; op++ {
				table[op] = row
			}
		}
	}
	return table
}

// formula: what a cell of the table comes to.
func formula(text string, width, size int) int {
	sum := 0
	for _, part := range strings.Split(text, "+") {
		product := 1
		for _, word := range strings.Fields(strings.ReplaceAll(part, "*", " ")) {
			switch word {
			case "W":
				product *= width
			case "size":
				product *= size
			default:
				n, e := strconv.Atoi(word)
				if e != nil {
					panic(e)
				}
				product *= n
			}
		}
		sum += product
	}
	return sum
}

// plainReader reads flat code that may be.
type plainReader struct {
	flat    api.Flat
	table   map[int][3]string
	t, q, c *big.Int
	room    int
}

func newReader(f api.Flat) *plainReader {
	return &plainReader{flat: f, table: plainTable(), t: new(big.Int), q: new(big.Int), c: new(big.Int)}
}

// row: the t, g and q of an instruction.
func (p *plainReader) row(x api.Ins) (t, g, q int) {
	size := 0
	if x.Op == api.FLoad || x.Op == api.FStore {
		size = p.flat.Decls[x.Array].Size
	}
	row := p.table[x.Op]
	return formula(row[0], p.flat.Width, size), formula(row[1], p.flat.Width, size), formula(row[2], p.flat.Width, size)
}

// ways: 1, times, for each FIf, the ways of its Then and those of its Else together.
func ways(list []api.Ins) *big.Int {
	n := big.NewInt(1)
	for _, x := range list {
		if x.Op == api.FIf {
			n.Mul(n, new(big.Int).Add(ways(x.Then), ways(x.Else)))
		}
	}
	return n
}

// times: r times a number.
func times(r *big.Int, n int) *big.Int { return new(big.Int).Mul(r, big.NewInt(int64(n))) }

// reached goes through code with r and g; it tells what g is behind it.
func (p *plainReader) reached(list []api.Ins, r *big.Int, g int) int {
	for _, x := range list {
		t, more, q := p.row(x)
		p.t.Add(p.t, times(r, t))
		p.q.Add(p.q, times(r, q))
		g += more
		if q == 1 {
			p.c.Add(p.c, times(r, 4*(g+64)))
			p.room = max(p.room, 4*(g+64))
		}
		if x.Op == api.FIf {
			then := p.reached(x.Then, r, g)
			otherwise := p.reached(x.Else, r, g)
			g = max(then, otherwise)
			r = new(big.Int).Mul(r, new(big.Int).Add(ways(x.Then), ways(x.Else)))
		}
	}
	return g
}

// plainBits: W times the public input words and twice the secret ones.
func plainBits(f api.Flat) int {
	public, secret := 0, 0
	for _, d := range f.Decls {
		words := d.Size
		if words == 0 {
			words = 1
		}
		if d.Kind == api.DPublic {
			public += words
		}
		if d.Kind == api.DSecret {
			secret += words
		}
	}
	return f.Width * (public + 2*secret)
}

// plainNeed: what Code should answer of flat code that may be.
func plainNeed(f api.Flat) api.Need {
	p := newReader(f)
	p.reached(f.Code, big.NewInt(1), 0)
	each := new(big.Int).Exp(big.NewInt(2), big.NewInt(int64(plainBits(f))), nil)
	each.Sub(each, big.NewInt(1))
	return api.Need{
		Paths:     ways(f.Code).String(),
		Terms:     p.t.String(),
		Queries:   p.q.String(),
		Clauses:   p.c.String(),
		Decisions: each.Mul(each, p.q).String(),
		Room:      strconv.Itoa(p.room),
	}
}

// walk goes each way by itself, as a check would in which no query shows a leak and each if parts: what stands behind an if is gone through once for each way to it. Its sums are those of the chapter, but for the clauses: there the gates are those of the way.
func (p *plainReader) walk(list []api.Ins, g int, behind func(g int)) {
	if len(list) == 0 {
		behind(g)
		return
	}
	t, more, q := p.row(list[0])
	p.t.Add(p.t, big.NewInt(int64(t)))
	g += more
	if q == 1 {
		p.q.Add(p.q, big.NewInt(1))
		p.c.Add(p.c, big.NewInt(int64(4*(g+64))))
		p.room = max(p.room, 4*(g+64))
	}
	rest := func(g int) { p.walk(list[1:], g, behind) }
	if list[0].Op == api.FIf {
		p.walk(list[0].Then, g, rest)
		p.walk(list[0].Else, g, rest)
		return
	}
	rest(g)
}
