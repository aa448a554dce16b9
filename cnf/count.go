package cnf

import (
	"math/bits"

	"cadence/api"
)

// maxCounted bounds the variables of which all assignments are gone through.
const maxCounted = 20

// lowVars is the number of variables whose values stand within a word of 64 assignments.
const lowVars = 6

// lowTrue has, for each of these variables, the assignments of a word in which it is true.
var lowTrue = [lowVars]uint64{0xaaaaaaaaaaaaaaaa, 0xcccccccccccccccc, 0xf0f0f0f0f0f0f0f0, 0xff00ff00ff00ff00, 0xffff0000ffff0000, 0xffffffff00000000}

// Count: under how many assignments a formula is true.
func Count(f api.Formula) (uint64, api.Errno) {
	tidy, e := Tidy(f)
	if e != api.OK {
		return 0, e
	}
	if f.Vars > maxCounted {
		return 0, api.ErrVars
	}
	refuted := make([]uint64, 1<<max(f.Vars-lowVars, 0))
	for _, c := range tidy.Clauses {
		refute(refuted, c)
	}
	// With fewer variables than a word has room for, just its lowest assignments are some.
	inWord := uint(1) << min(f.Vars, lowVars)
	count := uint64(0)
	for _, word := range refuted {
		count += uint64(bits.OnesCount64(^word << (64 - inWord)))
	}
	return count, api.OK
}

// refute marks the assignments under which a set clause that is not twofold is false. Their number, not that of all assignments, is what it costs: a formula has many long clauses, but few short ones.
func refute(refuted []uint64, set api.Clause) {
	low := ^uint64(0)
	fixed, free := 0, len(refuted)-1
	for _, l := range set {
		v := variable(l) - 1
		switch {
		case v < lowVars && l > 0:
			low &^= lowTrue[v]
		case v < lowVars:
			low &= lowTrue[v]
		default:
			free &^= 1 << (v - lowVars)
			if l < 0 {
				fixed |= 1 << (v - lowVars)
			}
		}
	}
	for part := free; ; part = (part - 1) & free {
		refuted[fixed|part] |= low
		if part == 0 {
			return
		}
	}
}
