package known

import (
	"fmt"
	"slices"
	"testing"

	"cadence/api"
)

// met: the settled fact of the words of both, by a search through them; false, if there is none.
func met(f, g api.Fact) (api.Fact, bool) {
	common := []uint64{}
	of := wordsOf(g)
	for _, x := range wordsOf(f) {
		if slices.Contains(of, x) {
			common = append(common, x)
		}
	}
	if len(common) == 0 {
		return api.Fact{}, false
	}
	return factOfWords(f.W, common), true
}

// joined: of settled facts, in the chapter's words.
func joined(f, g api.Fact) api.Fact {
	return api.Fact{W: f.W, One: f.One & g.One, Zero: f.Zero & g.Zero, Least: min(f.Least, g.Least), Top: max(f.Top, g.Top)}
}

func TestMeetExamples(t *testing.T) {
	for _, row := range [][3]string{
		{"???1", "???? 0 6", "0??1 1 5"},
		{"???? 3 9", "???? 5 12", "???? 5 9"},
		{"1???", "???0", "1??0"},
		{"???? 0 8", "???? 8 15", "1000"},
		{"t?", "t1", "t1"},
		{"t?", "t?", "t?"},
		{"?0?? 2 10", "??11", "0011"},
		{"0101", "????", "0101"},
	} {
		f, g := fact(row[0]), fact(row[1])
		is(t, row[0]+" and "+row[1], must[api.Fact](t)(Meet(f, g)), fact(row[2]))
		is(t, row[1]+" and "+row[0], must[api.Fact](t)(Meet(g, f)), fact(row[2]))
	}
	for _, row := range [][2]string{{"???? 0 4", "???? 5 9"}, {"1???", "0???"}, {"t0", "t1"}, {"0101", "0110"}, {"???1", "???? 8 8"}} {
		f, e := Meet(fact(row[0]), fact(row[1]))
		refusedFact(t, fmt.Sprint(row), f, e, api.ErrArg)
		f, e = Meet(fact(row[1]), fact(row[0]))
		refusedFact(t, fmt.Sprint(row), f, e, api.ErrArg)
	}
}

func TestJoinExamples(t *testing.T) {
	for _, row := range [][3]string{
		{"0101", "0110", "01?? 5 6"},
		{"???? 0 3", "???? 12 15", "????"},
		{"???1 0 6", "0000", "0??? 0 5"},
		{"t0", "t1", "t?"},
		{"t1", "t1", "t1"},
		{"1???", "1111", "1???"},
		{"0011", "1011", "?011"},
		{"???? 7 7", "???? 8 8", "???? 7 8"},
	} {
		f, g := fact(row[0]), fact(row[1])
		is(t, row[0]+" or "+row[1], must[api.Fact](t)(Join(f, g)), fact(row[2]))
		is(t, row[1]+" or "+row[0], must[api.Fact](t)(Join(g, f)), fact(row[2]))
	}
}

// All pairs of facts, settled or not, of very small widths.
func TestMeetAndJoinOfAll(t *testing.T) {
	for w := range 3 {
		list := allFacts(w)
		for _, f := range list {
			for _, g := range list {
				holdMeetAndJoin(t, f, g)
			}
		}
	}
	p := picker(2)
	for range 20000 {
		w := 3 + p.below(2)
		holdMeetAndJoin(t, anyFact(&p, w), anyFact(&p, w))
		w = pickOf(&p, widths...)
		f := fewWords(&p, w)
		g := fewWords(&p, w)
		if p.below(2) == 0 { // most of the time they have a word in common
			x := pickOf(&p, wordsOf(f)...)
			g = api.Fact{W: w, One: x & g.One, Zero: g.Zero &^ x, Least: min(x, g.Least), Top: max(x, g.Top)}
			if open := whole(w) &^ (g.One | g.Zero); open > 0 {
				g.One, g.Zero = g.One|x&open&^15, g.Zero|open&^x&^15
			}
		}
		holdMeetAndJoin(t, f, g)
	}
}

func holdMeetAndJoin(t *testing.T, f, g api.Fact) {
	t.Helper()
	got, e := Meet(f, g)
	if want, has := met(f, g); !has {
		refusedFact(t, fmt.Sprint("Meet", f, g), got, e, api.ErrArg)
	} else if e != api.OK || got != want {
		t.Fatalf("Meet%v%v: %v %d, not %v", f, g, got, e, want)
	}
	got, e = Join(f, g)
	of, others := wordsOf(f), wordsOf(g)
	if len(of) == 0 || len(others) == 0 {
		refusedFact(t, fmt.Sprint("Join", f, g), got, e, api.ErrArg)
		return
	}
	if want := joined(factOfWords(f.W, of), factOfWords(g.W, others)); e != api.OK || got != want {
		t.Fatalf("Join%v%v: %v %d, not %v", f, g, got, e, want)
	}
	for _, x := range append(of, others...) {
		if !Has(got, x) {
			t.Fatalf("Join%v%v: %v has not %d", f, g, got, x)
		}
	}
	if again, e := Settle(got); e != api.OK || again != got {
		t.Fatalf("Join%v%v: %v is not settled", f, g, got)
	}
}

// ErrWidth of any fact ahead of ErrArg of any; unlike widths, a truth and a word of one bit too.
func TestMeetAndJoinRefuse(t *testing.T) {
	both := func(f, g api.Fact, want api.Errno) {
		t.Helper()
		for range 2 {
			got, e := Meet(f, g)
			refusedFact(t, fmt.Sprint("Meet", f, g), got, e, want)
			got, e = Join(f, g)
			refusedFact(t, fmt.Sprint("Join", f, g), got, e, want)
			f, g = g, f
		}
	}
	for _, f := range misfits() {
		for _, g := range append(misfits(), wordless()...) {
			both(f, g, api.ErrWidth)
		}
		both(f, api.Fact{W: 4, Top: 15}, api.ErrWidth)
		both(f, api.Fact{W: f.W, Top: 1}, api.ErrWidth)
		both(f, f, api.ErrWidth)
	}
	for _, f := range wordless() {
		for _, g := range wordless() {
			if f.W == g.W {
				both(f, g, api.ErrArg)
			} else {
				both(f, g, api.ErrWidth)
			}
		}
		both(f, api.Fact{W: f.W, Top: whole(f.W)}, api.ErrArg)
	}
	for _, w := range widths {
		for _, v := range widths {
			if w != v {
				both(api.Fact{W: w, Top: 1}, api.Fact{W: v, Top: 1}, api.ErrWidth)
				both(api.Fact{W: w, Top: 1}, api.Fact{W: v, Least: 1}, api.ErrWidth)
				both(api.Fact{W: w}, api.Fact{W: v}, api.ErrWidth)
			}
		}
	}
}

// P1402: Meet and Join are commutative, associative and idempotent.
func TestMeetAndJoinLaws(t *testing.T) {
	type call func(f, g api.Fact) (api.Fact, api.Errno)
	hold := func(c call, f, g, h api.Fact) {
		t.Helper()
		ab, e1 := c(f, g)
		ba, e2 := c(g, f)
		if ab != ba || e1 != e2 {
			t.Fatalf("%v %v: %v %d, %v %d", f, g, ab, e1, ba, e2)
		}
		if ff, e := c(f, f); ff != f || e != api.OK {
			t.Fatalf("%v twice: %v %d", f, ff, e)
		}
		bc, e3 := c(g, h)
		if e1 == api.OK {
			ab, e1 = c(ab, h)
		}
		if e3 == api.OK {
			bc, e3 = c(f, bc)
		}
		if ab != bc || e1 != e3 {
			t.Fatalf("%v %v %v: %v %d, %v %d", f, g, h, ab, e1, bc, e3)
		}
	}
	for w := range 3 {
		list := settledFacts(w)
		for _, f := range list {
			for _, g := range list {
				for _, h := range list {
					hold(Meet, f, g, h)
					hold(Join, f, g, h)
				}
			}
		}
	}
	p := picker(3)
	three := settledFacts(3)
	for range 30000 {
		hold(Meet, pickOf(&p, three...), pickOf(&p, three...), pickOf(&p, three...))
		hold(Join, pickOf(&p, three...), pickOf(&p, three...), pickOf(&p, three...))
		w := pickOf(&p, widths...)
		wide := func() api.Fact { return must[api.Fact](t)(Settle(someFact(&p, w))) }
		f, g, h := wide(), wide(), wide()
		hold(Meet, f, g, h)
		hold(Join, f, g, h)
	}
}
