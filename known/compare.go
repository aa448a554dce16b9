package known

import "cadence/api"

// truth: what is known of a truth that always holds, that never does, or of which neither is known.
func truth(always, never bool) api.Fact {
	switch {
	case always:
		return alone(0, 1)
	case never:
		return alone(0, 0)
	}
	return nothing(0)
}

// equal: not both of the facts have one word alone, so that they can not always be.
func equal(a, b api.Fact) api.Fact {
	_, common := firstWord(overlap(a, b))
	return truth(false, !common)
}

// ends: the least and the greatest of some words.
type ends struct{ least, top uint64 }

func endsOf(f api.Fact) ends { return ends{f.Least, f.Top} }

// signedEndsOf: as signed numbers, but with the highest bit turned, so that they compare as numbers without sign.
func signedEndsOf(f api.Fact) ends {
	sign := highest(f.W)
	low, high := f, f
	low.One |= sign
	high.Zero |= sign
	low, below := settle(low)
	high, others := settle(high)
	if !below {
		low = high
	}
	if !others {
		high = low
	}
	return ends{low.Least ^ sign, high.Top ^ sign}
}

// less: is a word of a below one of b?
func less(a, b ends) api.Fact { return truth(a.top < b.least, a.least >= b.top) }
