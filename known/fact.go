package known

import (
	"math"
	mathbits "math/bits"

	"cadence/api"
	"cadence/bits"
)

// isWidth: may a fact have it? A truth has 0.
func isWidth(w int) bool { return w == 0 || bits.Right(w) }

// lowest: the word whose lowest n bits are 1.
func lowest(n int) uint64 { return bits.Trim(n, math.MaxUint64) }

// ones: the greatest word of a width; a truth is as a word of one bit.
func ones(w int) uint64 { return lowest(max(w, 1)) }

// highest: the word of a width with its highest bit alone.
func highest(w int) uint64 { return ones(w) - ones(w)>>1 }

// nothing: the fact of all words of a width.
func nothing(w int) api.Fact { return api.Fact{W: w, Top: ones(w)} }

// alone: the fact of one word.
func alone(w int, x uint64) api.Fact {
	return api.Fact{W: w, One: x, Zero: ones(w) - x, Least: x, Top: x}
}

// turned: the fact of the words with each bit turned, the order of which is turned by that too.
func turned(f api.Fact) api.Fact {
	return api.Fact{W: f.W, One: f.Zero, Zero: f.One, Least: ones(f.W) - f.Top, Top: ones(f.W) - f.Least}
}

// overlap: the fact of the words of both; it may have none, and is not settled.
func overlap(f, g api.Fact) api.Fact {
	return api.Fact{
		W:   f.W,
		One: f.One | g.One, Zero: f.Zero | g.Zero,
		Least: max(f.Least, g.Least), Top: min(f.Top, g.Top),
	}
}

// join: of settled facts, and settled like them.
func join(f, g api.Fact) api.Fact {
	return api.Fact{
		W:   f.W,
		One: f.One & g.One, Zero: f.Zero & g.Zero,
		Least: min(f.Least, g.Least), Top: max(f.Top, g.Top),
	}
}

// hasOne: has a settled fact just one word?
func hasOne(f api.Fact) bool { return f.Least == f.Top }

// firstWord: the least word of a fact that may be; false, if it has none. Bit by bit, from the highest on, the word is Least as long as that can be.
func firstWord(f api.Fact) (uint64, bool) {
	if f.One&f.Zero != 0 {
		return 0, false
	}
	// The lowest place found at which the word can be 1 where Least is 0.
	rise := uint64(0)
	word := f.Least
search:
	for bit := highest(f.W); bit > 0; bit >>= 1 {
		isOne := f.Least&bit != 0
		switch {
		case !isOne && f.One&bit != 0:
			word = above(f, bit)
			break search
		case isOne && f.Zero&bit != 0:
			if rise == 0 {
				return 0, false
			}
			word = above(f, rise)
			break search
		case !isOne && f.Zero&bit == 0:
			rise = bit
		}
	}
	if word > f.Top {
		return 0, false
	}
	return word, true
}

// above: the least word with a fact's bits that is Least ahead of a bit and has a 1 there, where Least has a 0.
func above(f api.Fact, bit uint64) uint64 { return f.Least&^(bit-1) | bit | f.One&(bit-1) }

// settle: of a fact that may be; false, if it has no word.
func settle(f api.Fact) (api.Fact, bool) {
	least, has := firstWord(f)
	if !has {
		return api.Fact{}, false
	}
	last, _ := firstWord(turned(f))
	top := ones(f.W) - last
	// All words lie between these two, and so share what the two have alike from the highest bit on. Of the other bits, each that the fact leaves open is 1 in one of the words and 0 in another: behind the first bit that differs, the words below may end in ones, and those above in zeros.
	differ := mathbits.Len64(least ^ top)
	alike := ones(f.W) >> differ << differ
	return api.Fact{
		W:   f.W,
		One: f.One | least&alike, Zero: f.Zero | alike&^least,
		Least: least, Top: top,
	}, true
}

// settleAll: each of them settled; that one may not be is told ahead of that one has no word.
func settleAll(facts []api.Fact) ([]api.Fact, api.Errno) {
	for _, f := range facts {
		if !May(f) {
			return nil, api.ErrWidth
		}
	}
	settled := make([]api.Fact, len(facts))
	for i, f := range facts {
		var has bool
		if settled[i], has = settle(f); !has {
			return nil, api.ErrArg
		}
	}
	return settled, api.OK
}
