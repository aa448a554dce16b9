package mem

import (
	"math/bits"

	"cadence/api"
)

// indexBits: how many of an index' lowest bits tell its place. A narrow index does not reach all cells.
func (a *Array) indexBits() int {
	return min(bits.Len(uint(len(a.cells)))-1, a.width)
}

// places: how many cells an index can mean; they are the first ones.
func (a *Array) places() int { return 1 << a.indexBits() }

// whereabouts: what an index says of the place that it means.
type whereabouts struct {
	fixed bool // it is one place, whatever the variables are
	place int  // which, if it is fixed
	low   int  // else the term of the bits that tell it
}

// where: of an index that is not refused.
func (a *Array) where(i int) whereabouts {
	if a.indexBits() == 0 { // there is no slice without a bit
		return whereabouts{fixed: true}
	}
	low := a.slice(i, 0, a.indexBits())
	if n, _ := a.maker.Store().Node(low); n.Op == api.OpConst {
		return whereabouts{fixed: true, place: int(n.Num)}
	}
	return whereabouts{low: low}
}

// half makes a list half as long, in place: of each two neighbours the one that a bit of the index chooses.
func (a *Array) half(list []int, bit int) []int {
	shorter := list[:len(list)/2]
	for n := range shorter {
		shorter[n] = a.ite(bit, list[2*n+1], list[2*n])
	}
	return shorter
}

// bit: is the bit b of an index 1?
func (a *Array) bit(i, b int) int { return a.eq(a.slice(i, b, 1), a.word(1, 1)) }

// The maker's calls. It refuses none of these, since all parts are of the sorts that are asked for, and its store has no limit.

func (a *Array) slice(t, from, n int) int {
	made, _ := a.maker.Slice(t, from, n)
	return made
}

func (a *Array) word(width, x int) int {
	made, _ := a.maker.Const(width, uint64(x))
	return made
}

func (a *Array) eq(x, y int) int {
	made, _ := a.maker.Bin(api.OpEq, x, y)
	return made
}

func (a *Array) ite(c, x, y int) int {
	made, _ := a.maker.Ite(c, x, y)
	return made
}
