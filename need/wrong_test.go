package need

import (
	"fmt"
	"math"
	"slices"
	"strings"
	"testing"

	"cadence/api"
	"cadence/flat"
)

// refused: code that may not be: ErrArg, and nothing else (P2001).
func refused(t testing.TB, what string, f api.Flat) {
	t.Helper()
	if flat.May(f) {
		t.Fatalf("%s: may be", what)
	}
	n, e := Code(f)
	is(t, what, []any{n, e}, []any{api.Need{}, api.ErrArg})
}

// TestWrongHeads: a width, a line, declarations or temps that may not be (P2001).
func TestWrongHeads(t *testing.T) {
	refused(t, "nothing", api.Flat{})
	is(t, "no instruction", codeNeed(t, api.Flat{Width: 4, Line: 1}), told("1 0 0 0 0 0"))
	turned := func(turn func(f *api.Flat)) api.Flat {
		f := base(8, ins(api.EDiv), load(table(4)))
		turn(&f)
		return f
	}
	for _, n := range []int{0, 1, 2, 3, 5, 12, 63, 65, 128, -8, math.MaxInt, math.MinInt} {
		refused(t, fmt.Sprint("width ", n), turned(func(f *api.Flat) { f.Width = n }))
	}
	for _, n := range []int{0, 3, 512, -1, math.MaxInt, math.MinInt} {
		refused(t, fmt.Sprint("line ", n), turned(func(f *api.Flat) { f.Line = n }))
	}
	for _, n := range []int{2, 0, -1, 1<<20 + 1, math.MaxInt, math.MinInt} {
		refused(t, fmt.Sprint(n, " temps"), turned(func(f *api.Flat) { f.Temps = n }))
	}
	for what, turn := range map[string]func(d *api.Decl){
		"a kind that is none": func(d *api.Decl) { d.Kind = 6 },
		"a name twice":        func(d *api.Decl) { d.Name = "x" },
		"no name":             func(d *api.Decl) { d.Name = "" },
		"a size of 3":         func(d *api.Decl) { d.Size = 3 },
		"a size of 512":       func(d *api.Decl) { d.Size = 512 },
		"a size below 0":      func(d *api.Decl) { d.Size = -1 },
		"a great size":        func(d *api.Decl) { d.Size = math.MaxInt },
		"values of no table":  func(d *api.Decl) { d.Values = []uint64{1} },
		"a table":             func(d *api.Decl) { d.Kind = api.DConst },
	} {
		refused(t, what, turned(func(f *api.Flat) { turn(&f.Decls[0]) }))
	}
	refused(t, "257 declarations", turned(func(f *api.Flat) {
		for i := range 256 {
			f.Decls = append(f.Decls, api.Decl{Kind: api.DVar, Name: fmt.Sprint("v", i), Size: 1})
		}
	}))
	refused(t, "4097 input words", turned(func(f *api.Flat) {
		for i := range 16 {
			f.Decls = append(f.Decls, api.Decl{Kind: api.DPublic, Name: fmt.Sprint("v", i), Size: 256})
		}
	}))
}

// TestWrongCode: instructions that may not be, wherever they stand (P2001).
func TestWrongCode(t *testing.T) {
	wrong := map[string]api.Ins{
		"no temp":                  {Op: api.FCopy, Dst: 3},
		"a temp below 0":           {Op: api.FCopy, Dst: -1},
		"an argument of no temp":   {Op: api.FRelease, A: api.Arg{Temp: 3}},
		"a number too great":       {Op: api.FRelease, A: number(256)},
		"a temp with a number":     {Op: api.FRelease, A: api.Arg{Temp: 1, Num: 1}},
		"an argument too many":     {Op: api.FRelease, B: number(0)},
		"a part of no if":          {Op: api.FCopy, Then: list(ins(api.FCopy))},
		"a load of no array":       load(2),
		"a load behind all":        load(3 + 2*len(sizes())),
		"a load below all":         load(-1),
		"a load of the greatest":   load(math.MaxInt),
		"a store to no array":      store(0),
		"a store to a table":       store(table(4)),
		"an array of a copy":       {Op: api.FCopy, Array: 3},
		"a load as an expression":  ins(api.ELoad),
		"a number's expression":    ins(api.ENum),
		"an operation of the rest": ins(36),
	}
	for op := -3; op < 60; op++ {
		if op < api.ECom || op > api.ESel && op < api.FCopy || op > api.FRelease {
			wrong[fmt.Sprint("operation ", op)] = ins(op)
		}
	}
	for _, op := range []int{math.MaxInt, math.MinInt, 1 << 32, 1<<32 + api.FCopy} {
		wrong[fmt.Sprint("operation ", op)] = ins(op)
	}
	for what, x := range wrong {
		fine := ins(api.EDiv)
		for _, code := range [][]api.Ins{{x}, {fine, x}, {x, fine}, {branch(list(x), nil)}, {branch(nil, list(x))}, {branch(list(fine), nil), branch(list(fine), list(fine, branch(list(fine, x), nil))), fine}} {
			refused(t, what, base(8, code...))
		}
	}
}

// TestTooMuchCode: more instructions than there may be, too deep, or without an end (P2001, P1).
func TestTooMuchCode(t *testing.T) {
	refused(t, "2^18 and 1", base(8, slices.Repeat(list(ins(api.FCopy)), 1<<18+1)...))
	refused(t, "2^18 and an if around", base(8, branch(slices.Repeat(list(ins(api.FCopy)), 1<<18), nil)))
	refused(t, "within 65", base(8, nested(65, list(ins(api.FCopy)), false)...))
	refused(t, "within many", base(8, nested(60000, list(ins(api.FCopy)), false)...))
	refused(t, "halves that are one", base(8, nested(64, list(ins(api.FCopy)), true)...))
	self := list(ins(api.FIf), ins(api.FIf))
	self[0].Then, self[0].Else, self[1].Then = self, self, self
	refused(t, "a list in itself", base(8, self...))
}

// TestWrongPrograms: the error of flat.Make, for each of the errors that a program may have (P2001).
func TestWrongPrograms(t *testing.T) {
	deep := strings.Repeat("-", 64) + "x"
	rows := []struct {
		text string
		want api.Errno
	}{
		{"width 5; begin end", api.ErrWidth},
		{"line 3; begin end", api.ErrPower},
		{"out x[3]; begin end", api.ErrPower},
		{"secret k; out k; begin end", api.ErrTwice},
		{"const t[2] = 1; begin end", api.ErrValues},
		{"width 4; const t[2] = 1, 16; begin end", api.ErrRange},
		{"width 4; out x; begin x = 16; end", api.ErrRange},
		{"out x; begin x = " + deep + "; end", api.ErrDeep},
		{"out x; begin x = y; end", api.ErrUnknown},
		{"out x; var a[2]; begin x = a; end", api.ErrKind},
		{"out x; begin for i 3 2 { } end", api.ErrBounds},
		{"out x; begin for x 0 2 { } end", api.ErrLoop},
		{"out x; begin for i 0 300 { for j 0 300 { x = j; } } end", api.ErrUnrolled},
		{"public n; begin for i 0 21846 { if n { } } end", api.ErrUnrolled},
	}
	var many, words strings.Builder
	for i := range 257 {
		fmt.Fprintf(&many, "var v%d; ", i)
	}
	for i := range 17 {
		fmt.Fprintf(&words, "secret s%d[256]; ", i)
	}
	rows = append(rows, struct {
		text string
		want api.Errno
	}{many.String() + "begin end", api.ErrSize}, struct {
		text string
		want api.Errno
	}{words.String() + "begin end", api.ErrInputs})
	for _, r := range rows {
		p := parsed(t, r.text)
		n, e := Of(p)
		is(t, cut(r.text), []any{n, e}, []any{api.Need{}, r.want})
		_, made := flat.Make(p)
		is(t, "Make of "+cut(r.text), made, r.want)
	}
	for what, p := range map[string]api.Program{
		"nothing":             {},
		"no name":             {Width: 8, Line: 1},
		"a statement of none": {Name: "p", Width: 8, Line: 1, Body: []api.Stmt{{Kind: 9}}},
		"a wrong name":        {Name: "if", Width: 8, Line: 1},
	} {
		n, e := Of(p)
		is(t, what, []any{n, e}, []any{api.Need{}, api.ErrArg})
	}
}
