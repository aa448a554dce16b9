package known

import (
	mathbits "math/bits"

	"cadence/api"
	"cadence/bits"
)

// carried: the bits of the sum of two facts' words and a carry, without bounds.
func carried(a, b api.Fact, carry uint64) api.Fact {
	f := nothing(a.W)
	isOne, isZero := carry, 1-carry // of the carry into a bit: 1 each, if that is known
	for i := range a.W {
		one := isOne + a.One>>i&1 + b.One>>i&1
		zero := isZero + a.Zero>>i&1 + b.Zero>>i&1
		if one+zero == 3 {
			bit := one & 1
			f.One |= bit << i
			f.Zero |= (1 - bit) << i
		}
		isOne, isZero = one>>1, zero>>1
	}
	return f
}

func sum(a, b api.Fact) api.Fact {
	f := carried(a, b, 0)
	least, top := bits.Trim(a.W, a.Least+b.Least), bits.Trim(a.W, a.Top+b.Top)
	// A sum that left the width has come out below its parts. Where one did and the other not, all words lie between.
	if (least < a.Least) == (top < a.Top) {
		f.Least, f.Top = least, top
	}
	return f
}

func difference(a, b api.Fact) api.Fact {
	f := carried(a, turned(b), 1)
	if (a.Least < b.Top) == (a.Top < b.Least) {
		f.Least, f.Top = bits.Trim(a.W, a.Least-b.Top), bits.Trim(a.W, a.Top-b.Least)
	}
	return f
}

func product(a, b api.Fact) api.Fact {
	f := nothing(a.W)
	known := lowest(min(length(a.One|a.Zero), length(b.One|b.Zero)))
	zeros := lowest(min(length(a.Zero)+length(b.Zero), a.W))
	f.One = known & (a.One * b.One)
	f.Zero = known&^f.One | zeros
	if over, top := mathbits.Mul64(a.Top, b.Top); over == 0 && top <= f.Top {
		f.Least, f.Top = a.Least*b.Least, top
	}
	return f
}

// length: how many ones a word has from its lowest bit on.
func length(x uint64) int { return mathbits.TrailingZeros64(^x) }

func quotient(a, b api.Fact) api.Fact {
	f := nothing(a.W)
	if b.Least > 0 {
		f.Least, f.Top = a.Least/b.Top, a.Top/b.Least
	}
	return f
}

func remainder(a, b api.Fact) api.Fact {
	if b.Least > a.Top {
		return a
	}
	f := nothing(a.W)
	f.Top = a.Top
	if b.Least > 0 {
		f.Top = min(a.Top, b.Top-1)
	}
	return f
}

// overAmounts: the join of what a shift by n makes, over each n that a word of b may be modulo the width, which is a power of two.
func overAmounts(b api.Fact, by func(n int) api.Fact) api.Fact {
	var all api.Fact
	found := false
	for n := range b.W {
		amount := b
		amount.One |= uint64(n)
		amount.Zero |= uint64(b.W - 1 - n)
		if _, has := firstWord(amount); !has {
			continue
		}
		f, _ := settle(by(n))
		if found {
			f = join(all, f)
		}
		all, found = f, true
	}
	return all
}

// shifted: by n, which is below the width.
func shifted(op int, a api.Fact, n int) api.Fact {
	f := nothing(a.W)
	f.One, _ = bits.Bin(op, a.W, a.One, uint64(n))
	f.Zero, _ = bits.Bin(op, a.W, a.Zero, uint64(n))
	switch op {
	case api.OpShl:
		f.Zero |= lowest(n)
		if a.Top <= f.Top>>n {
			f.Least, f.Top = a.Least<<n, a.Top<<n
		}
	case api.OpShr:
		f.Zero |= f.Top - f.Top>>n
		f.Least, f.Top = a.Least>>n, a.Top>>n
	}
	return f
}
