package check

import (
	"strconv"

	"cadence/api"
)

func secure() api.Verdict { return api.Verdict{Kind: api.Secure} }

func stopped() api.Verdict { return api.Verdict{Kind: api.Stopped} }

func unknown(which int) api.Verdict { return api.Verdict{Kind: api.Unknown, Which: which} }

func refused(e api.Errno) api.Verdict { return api.Verdict{Kind: api.Reject, Code: e} }

// witness: the inputs of both copies at each position, out of the values of their variables; 0 of one that no query hung on.
func witness(public []bool, values []api.Value) (x, y []uint64) {
	words := make(map[string]uint64, len(values))
	for _, v := range values {
		words[v.Name] = v.Num
	}
	for i, is := range public {
		place := strconv.Itoa(i)
		if is {
			x, y = append(x, words["p"+place]), append(y, words["p"+place])
		} else {
			x, y = append(x, words["x"+place]), append(y, words["y"+place])
		}
	}
	return x, y
}
