package known

import (
	"fmt"
	"math"
	"slices"
	"testing"

	"cadence/api"
	"cadence/bits"
)

// partCount: how many parts an operation has, by the table of chapter 7.
var partCount = []int{0, 0, 0, 0, 0, 1, 2, 2, 2, 2, 2, 2, 2, 2, 3, 1, 1, 2, 2, 2, 2, 2, 2, 2, 2, 2, 2, 2, 2, 2, 2, 1, 1, 1}

// applied: what Apply answers of parts that it has, the others being facts that may not be; n's A, B, C and Name are anything.
func applied(n api.Node, parts ...api.Fact) (api.Fact, api.Errno) {
	n.A, n.B, n.C, n.Name = -1, math.MaxInt, 7, "1 no name"
	three := [3]api.Fact{}
	for i := range three {
		if i < len(parts) {
			three[i] = parts[i]
		} else {
			three[i] = api.Fact{W: 99, One: 1, Zero: 1, Least: 2, Top: 1}
		}
	}
	return Apply(n, three[0], three[1], three[2])
}

// fitting: nodes of an operation for parts of these widths (those that it has), by the table of chapter 7: all that may be, of words of at most 64 bits.
func fitting(op, a, b int) []api.Node {
	words := a > 0 && a == b
	node := func(fits bool, w int) []api.Node {
		if !fits {
			return nil
		}
		return []api.Node{{Op: op, W: w}}
	}
	switch op {
	case api.OpTrue, api.OpFalse:
		return node(true, 0)
	case api.OpConst:
		return []api.Node{{Op: op, W: max(a, 1)}, {Op: op, W: max(a, 1), Num: whole(a)}}
	case api.OpVar:
		return node(true, a)
	case api.OpNot:
		return node(a == 0, 0)
	case api.OpAnd, api.OpOr, api.OpXor:
		return node(a == 0 && b == 0, 0)
	case api.OpEq:
		return node(a == b, 0)
	case api.OpUlt, api.OpUle, api.OpSlt, api.OpSle:
		return node(words, 0)
	case api.OpIte: // b is that of both
		return node(a == 0, b)
	case api.OpCom, api.OpNeg:
		return node(a > 0, a)
	case api.OpShl, api.OpShr, api.OpSar, api.OpRol, api.OpRor:
		return node(words && slices.Contains([]int{1, 2, 4, 8, 16, 32, 64}, a), a)
	case api.OpCat:
		return node(a > 0 && b > 0 && a+b <= 64, a+b)
	case api.OpSlice:
		list := []api.Node{}
		for from := range a {
			for n := 1; from+n <= a; n++ {
				list = append(list, api.Node{Op: op, W: n, Num: uint64(from)})
			}
		}
		return list
	case api.OpZext, api.OpSext:
		list := []api.Node{}
		for w := max(a, 1); a > 0 && w <= 64; w++ {
			list = append(list, api.Node{Op: op, W: w})
		}
		return list
	}
	return node(words, a)
}

// Of each operation, with each W, and parts of each pair of widths: ErrSort, but where chapter 7 lets it be.
func TestApplySorts(t *testing.T) {
	some := []int{0, 1, 2, 3, 4, 5, 8, 9, 32, 33, 63, 64}
	for op := 1; op <= api.OpLast; op++ {
		for _, a := range some {
			for _, b := range some {
				parts := []api.Fact{{W: a, Top: 1}, {W: b, Top: 1}, {W: b, Top: 1}}[:partCount[op]]
				right := fitting(op, a, b)
				for w := range 65 {
					for _, num := range []uint64{0, 1, 2, 63, 64, math.MaxUint64, math.MaxUint64 - 2, 1 << 63} {
						n := api.Node{Op: op, W: w, Num: num}
						f, e := applied(n, parts...)
						if !isFit(n, right) {
							refusedFact(t, fmt.Sprint(n, a, b), f, e, api.ErrSort)
						} else if e != api.OK || f.W != w {
							t.Fatalf("%v of %d, %d bits: %v %d", n, a, b, f, e)
						}
					}
				}
			}
		}
	}
}

// isFit: is it among those that may be? Of constants and variables not all are there.
func isFit(n api.Node, right []api.Node) bool {
	switch n.Op {
	case api.OpConst:
		return n.W > 0 && n.Num <= whole(n.W)
	case api.OpVar:
		return n.Num == 0
	}
	return slices.Contains(right, n)
}

// OpIte of parts of unlike sorts, and of a word where a truth must be.
func TestApplyIteSorts(t *testing.T) {
	for _, a := range []int{0, 1, 4, 64} {
		for _, b := range []int{0, 1, 4, 64} {
			for _, c := range []int{0, 1, 4, 64} {
				for _, w := range []int{0, 1, 4, 64} {
					f, e := applied(api.Node{Op: api.OpIte, W: w}, api.Fact{W: a, Top: 1}, api.Fact{W: b, Top: 1}, api.Fact{W: c, Top: 1})
					if a == 0 && b == c && w == b {
						is(t, "ite", []any{f, e}, []any{factOfWords(w, []uint64{0, 1}), api.OK})
					} else {
						refusedFact(t, fmt.Sprint("ite ", a, b, c, w), f, e, api.ErrSort)
					}
				}
			}
		}
	}
}

var noOps = []int{0, -1, 34, 35, 66, math.MinInt, math.MaxInt, 1 << 32, 1<<32 + 5}

// The errors, each ahead of those that are named behind it: ErrOp, ErrWidth, ErrArg, ErrSort.
func TestApplyErrorsInOrder(t *testing.T) {
	bad, none, word := api.Fact{W: 65}, api.Fact{W: 4, Least: 1}, api.Fact{W: 4, Top: 15}
	for _, op := range noOps {
		for _, w := range append(slices.Clone(noWidths), 0, 4) {
			for _, f := range []api.Fact{bad, none, word} {
				got, e := Apply(api.Node{Op: op, W: w, Num: 3}, f, f, f)
				refusedFact(t, fmt.Sprint("no op ", op, w), got, e, api.ErrOp)
			}
		}
	}
	for op := 1; op <= api.OpLast; op++ {
		for _, w := range noWidths {
			for _, f := range []api.Fact{bad, none, word} {
				got, e := Apply(api.Node{Op: op, W: w, Num: 99}, f, f, f)
				refusedFact(t, fmt.Sprint("no width ", op, w), got, e, api.ErrWidth)
			}
		}
		for i := range partCount[op] {
			for _, others := range []api.Fact{none, word} {
				parts := slices.Repeat([]api.Fact{others}, partCount[op])
				for _, w := range []int{0, 4, 8} { // W that may be, or not
					for _, misfit := range misfits() {
						parts[i] = misfit
						got, e := applied(api.Node{Op: op, W: w, Num: 9}, parts...)
						refusedFact(t, fmt.Sprint("a misfit ", op, parts), got, e, api.ErrWidth)
					}
				}
			}
			for _, w := range []int{0, 4, 8} {
				for _, lacking := range wordless() {
					parts := slices.Repeat([]api.Fact{word}, partCount[op])
					parts[i] = lacking
					got, e := applied(api.Node{Op: op, W: w, Num: 9}, parts...)
					refusedFact(t, fmt.Sprint("wordless ", op, parts), got, e, api.ErrArg)
				}
			}
		}
	}
}

// Parts that an operation has not are not looked at, nor are A, B, C and Name.
func TestApplyLooksAtItsPartsAlone(t *testing.T) {
	others := append(misfits(), wordless()...)
	for _, f := range others {
		for _, row := range []struct {
			n    api.Node
			a    string
			want string
		}{
			{api.Node{Op: api.OpTrue}, "", "t1"},
			{api.Node{Op: api.OpFalse}, "", "t0"},
			{api.Node{Op: api.OpConst, W: 4, Num: 9}, "", "1001"},
			{api.Node{Op: api.OpVar, W: 4}, "", "????"},
			{api.Node{Op: api.OpVar}, "", "t?"},
			{api.Node{Op: api.OpNot}, "t?", "t?"},
			{api.Node{Op: api.OpCom, W: 4}, "1??0", "0??1"},
			{api.Node{Op: api.OpSlice, W: 2, Num: 2}, "1??0", "1?"},
			{api.Node{Op: api.OpZext, W: 5}, "1??0", "01??0"},
			{api.Node{Op: api.OpSext, W: 5}, "1??0", "11??0"},
			{api.Node{Op: api.OpNeg, W: 2}, "11", "01"},
		} {
			row.n.A, row.n.B, row.n.C, row.n.Name = f.W, -f.W, int(f.One), "é"
			a := f
			if row.a != "" {
				a = fact(row.a)
			}
			is(t, fmt.Sprint(row.n), must[api.Fact](t)(Apply(row.n, a, f, f)), fact(row.want))
		}
		four := fact("00?1")
		is(t, "add", must[api.Fact](t)(Apply(api.Node{Op: api.OpAdd, W: 4, A: -5, Name: "x"}, four, four, f)), fact("0??0 2 6"))
		is(t, "eq", must[api.Fact](t)(Apply(api.Node{Op: api.OpEq, C: 1}, four, fact("1111"), f)), fact("t0"))
	}
}

// smallNodes: all nodes of an operation over parts of small widths, with the widths of the parts.
func smallNodes(op, most int) (nodes []api.Node, of [][]int) {
	for a := 0; a <= most; a++ {
		for b := 0; b <= most; b++ {
			if partCount[op] < 2 && b > 0 || op == api.OpIte && b == 0 && most > 3 {
				continue
			}
			for _, n := range fitting(op, a, b) {
				if n.W <= most+3 {
					nodes = append(nodes, n)
					of = append(of, []int{a, b, b}[:partCount[op]])
				}
			}
		}
	}
	return nodes, of
}

// every: all lists of settled facts of these widths.
func every(of []int, settled [][]api.Fact, each func(parts []api.Fact)) {
	var go1 func(parts []api.Fact)
	go1 = func(parts []api.Fact) {
		if len(parts) == len(of) {
			each(parts)
			return
		}
		for _, f := range settled[of[len(parts)]] {
			go1(append(parts[:len(parts):len(parts)], f))
		}
	}
	go1(nil)
}

// Each operation, over all settled facts of small widths: the fact is just the table's, it is settled, and no value of the parts' words is left out.
func TestApplyAllSmall(t *testing.T) {
	settled := [][]api.Fact{settledFacts(0), settledFacts(1), settledFacts(2), settledFacts(3)}
	for op := 1; op <= api.OpLast; op++ {
		most := 3
		if op == api.OpIte {
			most = 2
		}
		nodes, of := smallNodes(op, most)
		for i, n := range nodes {
			values := valuesOf(t, n, of[i])
			every(of[i], settled, func(parts []api.Fact) {
				got, e := applied(n, parts...)
				if want := plainApply(t, n, parts...); e != api.OK || got != want {
					t.Fatalf("%s %v of %v: %v %d, not %v", opWords[op], n, parts, got, e, want)
				}
				holdsValues(t, n, parts, got, values)
			})
		}
	}
}

// valuesOf: the value of a node for all words of its parts, as eval tells it, by the words one above another.
func valuesOf(t *testing.T, n api.Node, of []int) []uint64 {
	t.Helper()
	parts := []api.Fact{}
	length := 0
	for _, w := range of {
		parts = append(parts, api.Fact{W: w})
		length += max(w, 1)
	}
	list := make([]uint64, 1<<length)
	for i := range list {
		words := []uint64{}
		rest := uint64(i)
		for _, w := range of {
			words = append(words, rest&whole(w))
			rest >>= max(w, 1)
		}
		if n.Op != api.OpVar {
			list[i] = evaluated(t, n, parts, words)
		}
	}
	return list
}

// holdsValues: each value for words of the parts is a word of the answer.
func holdsValues(t *testing.T, n api.Node, parts []api.Fact, got api.Fact, values []uint64) {
	t.Helper()
	places := []uint64{0}
	at := 0
	for _, f := range parts {
		next := []uint64{}
		for _, x := range wordsOf(f) {
			for _, place := range places {
				next = append(next, place|x<<at)
			}
		}
		places = next
		at += max(f.W, 1)
	}
	for _, place := range places {
		if !Has(got, values[place]) {
			t.Fatalf("%s %v of %v: %v has not %d", opWords[n.Op], n, parts, got, values[place])
		}
	}
}

// Words of 4 bits (with shifts by words at and above 4), for some of all pairs.
func TestApplyFourBits(t *testing.T) {
	p := picker(4)
	four := settledFacts(4)
	for op := api.OpEq; op <= api.OpRor; op++ {
		if op == api.OpIte {
			continue
		}
		n := fitting(op, 4, 4)[0]
		of := []int{4, 4}[:partCount[op]]
		values := valuesOf(t, n, of)
		for range 2500 {
			parts := []api.Fact{pickOf(&p, four...), pickOf(&p, four...)}[:len(of)]
			got, e := applied(n, parts...)
			if want := plainApply(t, n, parts...); e != api.OK || got != want {
				t.Fatalf("%s of %v: %v %d, not %v", opWords[op], parts, got, e, want)
			}
			holdsValues(t, n, parts, got, values)
		}
	}
}

// Facts that are not settled: as if they were.
func TestApplySettlesParts(t *testing.T) {
	p := picker(5)
	for range 20000 {
		op := 1 + p.below(api.OpLast)
		w := 1 + p.below(4)
		if op <= api.OpXor || p.below(5) == 0 {
			w = 0
		}
		a, b := w, w
		if op == api.OpIte {
			a = 0
		}
		right := fitting(op, a, b)
		if len(right) == 0 {
			continue
		}
		n := pickOf(&p, right...)
		parts := []api.Fact{someFact(&p, a), someFact(&p, b), someFact(&p, b)}[:partCount[op]]
		settled := []api.Fact{}
		for _, f := range parts {
			settled = append(settled, factOfWords(f.W, wordsOf(f)))
		}
		got, e := applied(n, parts...)
		want, e2 := applied(n, settled...)
		if e != api.OK || e2 != api.OK || got != want {
			t.Fatalf("%v of %v: %v %d, not %v %d", n, parts, got, e, want, e2)
		}
	}
}

// Wide words: facts of all kinds, and, for the compares, facts with few words; some words of the parts, too.
func TestApplyWide(t *testing.T) {
	p := picker(6)
	for round := range 8000 {
		op := api.OpEq + p.below(api.OpLast-api.OpEq+1)
		w := pickOf(&p, 5, 8, 16, 32, 33, 63, 64, 64)
		a, b := w, w
		switch op {
		case api.OpIte:
			a = 0
		case api.OpCat:
			w = 1 + p.below(63)
			a, b = w, pickOf(&p, 1, 64-w, 1+p.below(64-w))
		}
		right := fitting(op, a, b)
		isShift := op >= api.OpShl && op <= api.OpRor
		if len(right) == 0 || isShift && w > 8 && p.below(12) > 0 { // these take the plain reading long
			continue
		}
		n := pickOf(&p, right...)
		some := someFact
		if op <= api.OpSle || round%3 == 0 {
			some = fewWords
		}
		parts := []api.Fact{some(&p, a), some(&p, b), some(&p, b)}[:partCount[op]]
		got, e := applied(n, parts...)
		if want := plainApply(t, n, parts...); e != api.OK || got != want {
			t.Fatalf("%s %v of %v: %v %d, not %v", opWords[op], n, parts, got, e, want)
		}
		for range 5 {
			words := []uint64{}
			for _, f := range parts {
				words = append(words, someWord(&p, f))
			}
			if x := evaluated(t, n, parts, words); !Has(got, x) {
				t.Fatalf("%s %v of %v: %v has not %d (of %v)", opWords[op], n, parts, got, x, words)
			}
		}
	}
}

// someWord: of a fact that has one: from the highest bit on, either way, if both can be.
func someWord(p *picker, f api.Fact) uint64 {
	q := plainOf(f)
	x := uint64(0)
	for i := len(q.bit) - 1; i >= 0; i-- {
		b := p.below(2)
		if !q.with(i, b).has() {
			b = 1 - b
		}
		q = q.with(i, b)
		x |= uint64(b) << i
	}
	return x
}

// Parts with one word each: of the value alone, at all widths, as package bits tells it too.
func TestApplyOfOneWordEach(t *testing.T) {
	p := picker(7)
	for range 4000 {
		op := api.OpBand + p.below(api.OpRor-api.OpBand+1)
		w := pickOf(&p, 1, 2, 4, 8, 16, 32, 64)
		x, y := p.next()&whole(w), pickOf(&p, p.next(), 0, 1, p.next())&whole(w)
		want := must[uint64](t)(bits.Bin(op, w, x, y))
		got, e := applied(api.Node{Op: op, W: w}, api.Fact{W: w, Least: x, Top: x}, factOfWords(w, []uint64{y}))
		is(t, fmt.Sprint(opWords[op], w, x, y), []any{got, e}, []any{factOfWords(w, []uint64{want}), api.OK})
	}
}
