package wf

import (
	"fmt"
	"math"
	"testing"

	"cadence/api"
)

// TestExamples: those of the chapter.
func TestExamples(t *testing.T) {
	for _, r := range []struct {
		text string
		want fault
	}{
		{"width 5; begin end", fault{2, -1, api.ErrWidth}},
		{"secret k; out k; begin end", fault{5, 1, api.ErrTwice}},
		{"out x[3]; begin end", fault{6, 0, api.ErrPower}},
		{"width 4; const t[2] = 1, 16; begin end", fault{8, 0, api.ErrRange}},
		{"out x; begin x = y; end", fault{11, 2, api.ErrUnknown}},
		{"out x; var a[2]; begin x = a; end", fault{12, 3, api.ErrKind}},
		{"out x; begin for i 3 2 { } end", fault{14, 1, api.ErrBounds}},
		{"out x; begin for x 0 2 { } end", fault{15, 1, api.ErrLoop}},
		{"out x; begin for i 0 300 { for j 0 300 { x = j; } } end", fault{16, -1, api.ErrUnrolled}},
		{"out x; begin for i 0 4 { x = x + i; } end", fault{0, 0, api.OK}},
	} {
		faultIs(t, r.text, parsed(t, r.text), r.want)
	}
	p := parsed(t, "out x; begin for i 0 4 { x = x + i; } end")
	sizeIs(t, "the last one", p, 21)
	is(t, "its things", thingsOf(t, p), 6)
	is(t, "its names", []string{namesAt(t, p, 0), namesAt(t, p, 1), namesAt(t, p, 2), namesAt(t, p, 5)}, []string{"", "x", "i x", "i x"})
}

// TestWidths: clause 2, and that what is below 0 is not of the form (clauses 1, 2).
func TestWidths(t *testing.T) {
	may := map[int]bool{4: true, 8: true, 16: true, 32: true, 64: true}
	for n := range 130 {
		want := at(2, -1)
		if may[n] {
			want = fault{}
		}
		faultIs(t, fmt.Sprint("width ", n), wide(n), want)
	}
	for _, n := range []int{128, 256, 1 << 32, 1<<32 + 4, math.MaxInt} {
		faultIs(t, fmt.Sprint("width ", n), wide(n), at(2, -1))
	}
	for _, n := range []int{-1, -4, -64, math.MinInt, math.MinInt + 32} {
		faultIs(t, fmt.Sprint("width ", n), wide(n), at(1, -1))
	}
}

// TestLines: clause 3.
func TestLines(t *testing.T) {
	p := base()
	for n := range 600 {
		p.Line = n
		want := at(3, -1)
		switch n {
		case 1, 2, 4, 8, 16, 32, 64, 128, 256:
			want = fault{}
		}
		faultIs(t, fmt.Sprint("line ", n), p, want)
	}
	for _, n := range []int{1024, 1 << 32, 1 << 62, math.MaxInt, 1<<32 + 1} {
		p.Line = n
		faultIs(t, fmt.Sprint("line ", n), p, at(3, -1))
	}
	for _, n := range []int{-1, -2, -256, math.MinInt} {
		p.Line = n
		faultIs(t, fmt.Sprint("line ", n), p, at(1, -1))
	}
}

// manySingles: so many declarations, whose kinds alternate.
func manySingles(n int) api.Program {
	p := api.Program{Name: "p", Width: 8, Line: 1}
	for i := range n {
		p.Decls = append(p.Decls, single(otherKinds()[i%4], fmt.Sprint("v", i)))
	}
	return p
}

// TestManyDecls: clause 4.
func TestManyDecls(t *testing.T) {
	for _, n := range []int{0, 1, 255, 256} {
		right(t, fmt.Sprint(n), manySingles(n))
		is(t, "things", thingsOf(t, manySingles(n)), n)
	}
	for _, n := range []int{257, 258, 512, 5000} {
		faultIs(t, fmt.Sprint(n), manySingles(n), at(4, -1))
		is(t, "things", thingsOf(t, manySingles(n)), n)
	}
	p := manySingles(256)
	p.Decls[0] = table("v0", 2, 1, 2)
	p.Decls[255] = array(api.DVar, "v255", 256)
	right(t, "arrays count as one", p)
}

// TestTwice: clause 5: the second of two of one name, of any kinds.
func TestTwice(t *testing.T) {
	decls := []api.Decl{single(api.DPublic, "k"), single(api.DSecret, "k"), table("k", 1, 1), single(api.DVar, "k"), array(api.DOut, "k", 2)}
	for _, a := range decls {
		for _, b := range decls {
			p := base()
			p.Decls = []api.Decl{a, b}
			faultIs(t, "beside", p, at(5, 1))
			p.Decls = []api.Decl{single(api.DVar, "b"), a, single(api.DVar, "c"), b, single(api.DVar, "d"), a}
			faultIs(t, "three times", p, at(5, 3))
			p.Decls = []api.Decl{single(api.DVar, "b"), a, single(api.DVar, "b"), b}
			faultIs(t, "two names twice", p, at(5, 2))
		}
	}
	p := base()
	for _, s := range []string{"k", "K", "kk", "_k", "k_", "k1", "k2", "p"} {
		p.Decls = append(p.Decls, single(api.DVar, s))
	}
	right(t, "names that are alike", p)
	p = manySingles(256)
	p.Decls[255].Name = "v0"
	faultIs(t, "the last and the first", p, at(5, 255))
}

// TestSizes: clause 6, of each kind.
func TestSizes(t *testing.T) {
	for _, kind := range otherKinds() {
		for n := range 600 {
			want := at(6, 3)
			switch n {
			case 0, 1, 2, 4, 8, 16, 32, 64, 128, 256:
				want = fault{}
			}
			p := base()
			p.Decls = append(p.Decls, array(kind, "b", n), single(kind, "c"))
			faultIs(t, fmt.Sprint("size ", n), p, want)
		}
		for _, n := range []int{1024, 4096, 1 << 32, 1 << 62, 1<<32 + 2, math.MaxInt} {
			p := base()
			p.Decls = append(p.Decls, array(kind, "b", n))
			faultIs(t, fmt.Sprint("size ", n), p, at(6, 3))
		}
		for _, n := range []int{-1, -2, -256, math.MinInt} {
			p := base()
			p.Decls = append(p.Decls, array(kind, "b", n))
			faultIs(t, fmt.Sprint("size ", n), p, at(1, -1))
		}
	}
}

// TestTables: clauses 6 and 7: a size that may be, and as many words.
func TestTables(t *testing.T) {
	for n := 1; n <= 520; n++ {
		for _, have := range []int{n - 1, n, n + 1, 2 * n} {
			p := base()
			p.Decls = append(p.Decls, table("t", n, zeros(have)...))
			want := fault{}
			switch {
			case have == 0:
				want = at(1, -1)
			case !powerUpTo256(n):
				want = at(6, 3)
			case have != n:
				want = at(7, 3)
			}
			faultIs(t, fmt.Sprint("table of ", n, " with ", have), p, want)
		}
	}
	for _, n := range []int{512, math.MaxInt, 1 << 62} {
		p := base()
		p.Decls = append(p.Decls, table("t", n, 1, 2))
		faultIs(t, "a great table", p, at(6, 3))
	}
	for _, n := range []int{0, -1, math.MinInt} {
		p := base()
		p.Decls = append(p.Decls, table("t", n, 1, 2))
		faultIs(t, "a table without a size", p, at(1, -1))
	}
	p := base()
	p.Decls = append(p.Decls, table("t", 2, 1, 2), table("u", 2, 1, 2, 3), table("v", 2, 1))
	faultIs(t, "the first of two", p, at(7, 4))
}

// TestValues: clause 8, at each width and each place in a table.
func TestValues(t *testing.T) {
	for _, w := range widths() {
		top := uint64(math.MaxUint64) >> (64 - w)
		for i := range 4 {
			p := wide(w)
			values := zeros(4)
			values[i] = top
			p.Decls = append(p.Decls, table("t", 4, values...))
			right(t, fmt.Sprint("the greatest of width ", w), p)
			if w == 64 {
				continue
			}
			for _, v := range []uint64{top + 1, top + 2, 1 << 63, math.MaxUint64, (top + 1) << 1} {
				values[i] = v
				faultIs(t, fmt.Sprint(v, " of width ", w), p, at(8, 3))
			}
			p.Decls = append(p.Decls, table("u", 1, top+1))
			faultIs(t, "the first of two tables", p, at(8, 3))
			values[i] = 0
			faultIs(t, "the second alone", p, at(8, 4))
		}
	}
}

// inputs: arrays of inputs with these sizes (0: a single), of the two kinds in turn.
func inputs(sizes ...int) api.Program {
	p := api.Program{Name: "p", Width: 8, Line: 1}
	for i, n := range sizes {
		p.Decls = append(p.Decls, array([]int{api.DPublic, api.DSecret}[i%2], fmt.Sprint("v", i), n))
	}
	return p
}

// TestInputs: clause 9: 4096 words, and one more.
func TestInputs(t *testing.T) {
	full := []int{}
	for range 15 {
		full = append(full, 256)
	}
	halves := append(append([]int{}, full...), 128, 64, 32, 16, 8, 4, 2, 1, 0)
	right(t, "16 arrays", inputs(append(full, 256)...))
	right(t, "15 arrays and less", inputs(halves...))
	faultIs(t, "a single more", inputs(append(halves, 0)...), at(9, -1))
	faultIs(t, "an array of one more", inputs(append(halves, 1)...), at(9, -1))
	faultIs(t, "17 arrays", inputs(append(full, 256, 256)...), at(9, -1))
	many := []int{}
	for range 256 {
		many = append(many, 256)
	}
	faultIs(t, "65536 words", inputs(many...), at(9, -1))
	for _, kind := range otherKinds() {
		p := inputs(append(full, 256)...)
		for i := range p.Decls {
			p.Decls[i].Kind = kind
		}
		right(t, "of one kind", p)
		p.Decls = append(p.Decls, single(kind, "last"))
		if kind == api.DPublic || kind == api.DSecret {
			faultIs(t, "of one kind, and one more", p, at(9, -1))
		} else {
			right(t, "no inputs", p)
		}
	}
	p := inputs(append(full, 256)...)
	for i := range 100 {
		p.Decls = append(p.Decls, array(api.DVar, fmt.Sprint("w", i), 256), table(fmt.Sprint("t", i), 256, zeros(256)...))
	}
	right(t, "others do not count", p)
}
