package known

import (
	"fmt"
	"math"
	"testing"

	"cadence/api"
)

// widths: those that facts can have at the ends, and some between; noWidths: none.
var (
	widths   = []int{0, 1, 2, 3, 7, 8, 31, 32, 33, 62, 63, 64}
	noWidths = []int{-1, -2, -64, 65, 66, 128, 1 << 32, math.MinInt, math.MaxInt}
)

// The plain reading is held against the chapter's own words first: a search through all words.
func TestPlainReading(t *testing.T) {
	for w := range 4 {
		for _, f := range allFacts(w) {
			words := wordsOf(f)
			if plainHas(f) != (len(words) > 0) {
				t.Fatalf("%v has %v", f, words)
			}
			if len(words) > 0 && plainSettle(f) != factOfWords(w, words) {
				t.Fatalf("%v: %v, not %v", f, plainSettle(f), factOfWords(w, words))
			}
		}
	}
}

func TestAll(t *testing.T) {
	is(t, "All(4)", must[api.Fact](t)(All(4)), api.Fact{W: 4, Top: 15})
	is(t, "All(0)", must[api.Fact](t)(All(0)), api.Fact{W: 0, Top: 1})
	is(t, "All(1)", must[api.Fact](t)(All(1)), api.Fact{W: 1, Top: 1})
	is(t, "All(63)", must[api.Fact](t)(All(63)), api.Fact{W: 63, Top: 1<<63 - 1})
	is(t, "All(64)", must[api.Fact](t)(All(64)), api.Fact{W: 64, Top: math.MaxUint64})
	for _, w := range widths {
		f := must[api.Fact](t)(All(w))
		is(t, "All", f, api.Fact{W: w, Top: whole(w)})
		is(t, "settled", must[api.Fact](t)(Settle(f)), f)
	}
	for _, w := range noWidths {
		f, e := All(w)
		refusedFact(t, fmt.Sprint("All ", w), f, e, api.ErrWidth)
	}
}

func TestAlone(t *testing.T) {
	is(t, "Alone(4, 5)", must[api.Fact](t)(Alone(4, 5)), api.Fact{W: 4, One: 5, Zero: 10, Least: 5, Top: 5})
	is(t, "Alone(0, 1)", must[api.Fact](t)(Alone(0, 1)), api.Fact{One: 1, Least: 1, Top: 1})
	is(t, "Alone(0, 0)", must[api.Fact](t)(Alone(0, 0)), api.Fact{Zero: 1})
	is(t, "Alone(64, 1)", must[api.Fact](t)(Alone(64, 1)), api.Fact{W: 64, One: 1, Zero: math.MaxUint64 - 1, Least: 1, Top: 1})
	for _, w := range widths {
		top := whole(w)
		for _, x := range []uint64{0, 1, top, top >> 1, top - top>>1} {
			f := must[api.Fact](t)(Alone(w, x))
			is(t, "Alone", f, api.Fact{W: w, One: x, Zero: top &^ x, Least: x, Top: x})
			is(t, "settled", must[api.Fact](t)(Settle(f)), f)
		}
		for _, x := range []uint64{top + 1, top + 2, math.MaxUint64, 1 << 63} {
			if x > top {
				f, e := Alone(w, x)
				refusedFact(t, fmt.Sprint("Alone ", w, x), f, e, api.ErrWidth)
			}
		}
	}
	for _, w := range noWidths {
		for _, x := range []uint64{0, 1, math.MaxUint64} {
			f, e := Alone(w, x)
			refusedFact(t, fmt.Sprint("Alone ", w, x), f, e, api.ErrWidth)
		}
	}
}

// misfits: facts that may not be, since a word is none of the width, or the width is none; each just beyond what may be, and far beyond it.
func misfits() []api.Fact {
	list := []api.Fact{}
	for _, w := range noWidths {
		list = append(list, api.Fact{W: w}, api.Fact{W: w, Top: 1}, api.Fact{W: w, One: 1, Zero: 1}, api.Fact{W: w, Least: 1})
	}
	for _, w := range []int{0, 1, 4, 8, 63} {
		for _, x := range []uint64{whole(w) + 1, whole(w) + 2, 1 << 63, math.MaxUint64} {
			for _, f := range []api.Fact{{One: x}, {Zero: x}, {Least: x}, {Top: x}, {One: x, Zero: x}, {Least: x, Top: x}} {
				f.W = w
				list = append(list, f)
				if f.Top == 0 {
					f.Top = whole(w)
					list = append(list, f)
				}
			}
		}
	}
	return list
}

// wordless: facts that may be, without a word.
func wordless() []api.Fact {
	list := []api.Fact{fact("???1 0 0"), fact("1??? 0 7"), fact("0??? 8 15"), fact("???? 3 2"), fact("?0? 2 3"), fact("1?1? 0 9")}
	for _, w := range widths {
		top := whole(w)
		list = append(list,
			api.Fact{W: w, Least: 1}, api.Fact{W: w, Least: top},
			api.Fact{W: w, One: 1, Zero: 1, Top: top}, api.Fact{W: w, One: top, Zero: top, Top: top}, api.Fact{W: w, One: top - top>>1, Zero: top - top>>1, Top: top},
			api.Fact{W: w, One: 1}, api.Fact{W: w, One: top, Top: top - 1}, api.Fact{W: w, Zero: 1, Least: top, Top: top}, api.Fact{W: w, Zero: top, Least: 1, Top: top},
		)
	}
	return list
}

func TestMay(t *testing.T) {
	for _, f := range misfits() {
		is(t, fmt.Sprint("May ", f), May(f), false)
	}
	for _, f := range wordless() {
		is(t, fmt.Sprint("May ", f), May(f), true)
	}
	for _, w := range widths {
		top := whole(w)
		for _, f := range []api.Fact{{}, {Top: top}, {One: top}, {Zero: top}, {Least: top}, {One: top, Zero: top, Least: top, Top: top}} {
			f.W = w
			is(t, fmt.Sprint("May ", f), May(f), true)
		}
	}
}

func TestHas(t *testing.T) {
	for w := range 4 {
		for _, f := range allFacts(w) {
			n := 0
			for _, x := range wordsOf(f) {
				n++
				if !Has(f, x) {
					t.Fatalf("%v has not %d", f, x)
				}
			}
			for x := range whole(w) + 4 {
				if Has(f, x) {
					n--
				}
			}
			is(t, fmt.Sprint("all words of ", f), n, 0)
			for _, x := range []uint64{1 << 32, 1 << 63, math.MaxUint64, 1 << 62} {
				is(t, fmt.Sprint("Has ", f, x), Has(f, x), false)
			}
		}
	}
	for _, f := range misfits() {
		for _, x := range []uint64{0, 1, f.One, f.Least, f.Top, f.Zero, math.MaxUint64} {
			is(t, fmt.Sprint("Has ", f, x), Has(f, x), false)
		}
	}
	wide := api.Fact{W: 64, One: 1 << 63, Zero: 1, Least: 1<<63 + 2, Top: math.MaxUint64 - 1}
	for x, want := range map[uint64]bool{1<<63 + 2: true, math.MaxUint64 - 1: true, 1 << 63: false, math.MaxUint64: false, 1<<63 + 3: false, 1<<62 + 2: false, 1<<63 + 1<<62: true} {
		is(t, fmt.Sprint("Has ", x), Has(wide, x), want)
	}
}

// The chapter's examples, and some more.
func TestSettleExamples(t *testing.T) {
	for _, row := range [][2]string{
		{"???1 0 6", "0??1 1 5"},
		{"???? 5 6", "01?? 5 6"},
		{"???? 0 15", "????"},
		{"???? 7 8", "???? 7 8"},
		{"???? 8 15", "1???"},
		{"???? 4 7", "01??"},
		{"???? 9 9", "1001"},
		{"?0?? 4 15", "10??"},
		{"?0?? 2 9", "?0?? 2 9"},
		{"?01? 0 9", "001?"},
		{"1??0 0 10", "10?0"},
		{"??11 4 14", "??11 7 11"},
		{"t? 0 0", "t0"},
		{"t? 1 1", "t1"},
		{"t? 0 1", "t?"},
		{"t1 0 1", "t1"},
		{"? 0 0", "0"},
		{"??? 3 5", "??? 3 5"},
		{"?1? 3 5", "011"},
	} {
		is(t, row[0], must[api.Fact](t)(Settle(fact(row[0]))), fact(row[1]))
	}
}

// All facts of small widths, held against a search through all words (P1402).
func TestSettleAllSmall(t *testing.T) {
	for w := range 5 {
		for _, f := range allFacts(w) {
			got, e := Settle(f)
			words := wordsOf(f)
			if len(words) == 0 {
				refusedFact(t, fmt.Sprint("Settle ", f), got, e, api.ErrArg)
				continue
			}
			if want := factOfWords(w, words); e != api.OK || got != want {
				t.Fatalf("Settle %v: %v %d, not %v", f, got, e, want)
			}
			if again, e := Settle(got); e != api.OK || again != got {
				t.Fatalf("Settle %v: %v %d", got, again, e)
			}
		}
	}
}

// Greater widths, by the plain reading, and where few bits are open by a search through all words.
func TestSettleWide(t *testing.T) {
	p := picker(1)
	for range 6000 {
		w := pickOf(&p, widths...)
		f := anyFact(&p, w)
		got, e := Settle(f)
		if !plainHas(f) {
			refusedFact(t, fmt.Sprint("Settle ", f), got, e, api.ErrArg)
		} else if want := plainSettle(f); e != api.OK || got != want {
			t.Fatalf("Settle %v: %v %d, not %v", f, got, e, want)
		}
		f = fewWords(&p, w)
		if got, e = Settle(f); e != api.OK || got != factOfWords(w, wordsOf(f)) {
			t.Fatalf("Settle %v: %v %d, not %v", f, got, e, factOfWords(w, wordsOf(f)))
		}
	}
}

// Bits and bounds that meet at their edges, at 64 and 63 bits.
func TestSettleEdges(t *testing.T) {
	const top, high = math.MaxUint64, 1 << 63
	for _, row := range [][2]api.Fact{
		{{One: high, Top: top}, {One: high, Least: high, Top: top}},
		{{Zero: high, Top: top}, {Zero: high, Top: high - 1}},
		{{Least: high, Top: top}, {One: high, Least: high, Top: top}},
		{{Least: high - 1, Top: high}, {Least: high - 1, Top: high}},
		{{One: 1, Least: high - 1, Top: high}, {One: high - 1, Zero: high, Least: high - 1, Top: high - 1}},
		{{Zero: 1, Least: high - 1, Top: high}, {One: high, Zero: high - 1, Least: high, Top: high}},
		{{One: high, Top: high}, {One: high, Zero: high - 1, Least: high, Top: high}},
		{{Zero: 1, Least: 1, Top: top}, {Zero: 1, Least: 2, Top: top - 1}},
		{{Zero: high, Least: high - 1, Top: top}, {One: high - 1, Zero: high, Least: high - 1, Top: high - 1}},
		{{Zero: 1<<62 + 1, Least: high - 1, Top: top}, {One: high, Zero: 1<<62 + 1, Least: high, Top: top - 1<<62 - 1}},
		{{One: 1 << 62, Least: high, Top: high + 1<<62}, {One: high + 1<<62, Zero: 1<<62 - 1, Least: high + 1<<62, Top: high + 1<<62}},
		{{Zero: top - 1, Top: top}, {Zero: top - 1, Top: 1}},
		{{Zero: top - 1, Least: 1, Top: top}, {One: 1, Zero: top - 1, Least: 1, Top: 1}},
		{{One: top - 1, Top: top}, {One: top - 1, Least: top - 1, Top: top}},
		{{One: top, Top: top}, {One: top, Least: top, Top: top}},
		{{Least: top, Top: top}, {One: top, Least: top, Top: top}},
		{{}, {Zero: top}},
	} {
		row[0].W, row[1].W = 64, 64
		is(t, fmt.Sprint(row[0]), must[api.Fact](t)(Settle(row[0])), row[1])
	}
	for _, f := range []api.Fact{
		{Zero: 1<<62 + 1, Least: high - 1, Top: high - 1}, {Zero: high + 1<<62, Least: 1 << 62, Top: top}, {One: high, Top: high - 1},
		{One: 1, Least: top - 1, Top: top - 1}, {Zero: 1, Least: top, Top: top}, {One: high, Zero: high, Top: top}, {Least: top, Top: top - 1},
	} {
		f.W = 64
		got, e := Settle(f)
		refusedFact(t, fmt.Sprint("Settle ", f), got, e, api.ErrArg)
	}
	f := api.Fact{W: 63, Zero: 1 << 62, Least: 1<<62 - 1, Top: 1<<63 - 1}
	is(t, "63 bits", must[api.Fact](t)(Settle(f)), api.Fact{W: 63, One: 1<<62 - 1, Zero: 1 << 62, Least: 1<<62 - 1, Top: 1<<62 - 1})
}

func TestSettleRefuses(t *testing.T) {
	for _, f := range misfits() {
		got, e := Settle(f)
		refusedFact(t, fmt.Sprint("Settle ", f), got, e, api.ErrWidth)
	}
	for _, f := range wordless() {
		got, e := Settle(f)
		refusedFact(t, fmt.Sprint("Settle ", f), got, e, api.ErrArg)
	}
}
