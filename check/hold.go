package check

import (
	"cadence/api"
	"cadence/run"
)

// isRefused: is it the verdict of a text that is refused with that error?
func isRefused(v api.Verdict, e api.Errno) bool {
	return v.Kind == api.Reject && v.Code == e && v.Which == 0 && !tellsInputs(v) && v.Used == api.Budget{}
}

// kindHolds: of a right program, by what each Kind says.
func kindHolds(p api.Program, v api.Verdict) bool {
	switch v.Kind {
	case api.Secure:
		return v.Which == 0 && !tellsInputs(v)
	case api.Unknown:
		return v.Which >= api.CPaths && v.Which <= api.CRoom && !tellsInputs(v)
	case api.Leak:
		return v.Which == 0 && leakHolds(p, v)
	}
	return false
}

// tellsInputs: has it anything that a Leak alone has?
func tellsInputs(v api.Verdict) bool {
	return len(v.X) > 0 || len(v.Y) > 0 || v.At != 0
}

// leakHolds: do the runs with the inputs show it, at the place that it tells? run takes greater words too, and looks at their lowest bits alone.
func leakHolds(p api.Program, v api.Verdict) bool {
	if !areWords(v.X, p.Width) || !areWords(v.Y, p.Width) {
		return false
	}
	leaks, at, e := run.Leaks(p, v.X, v.Y)
	return e == api.OK && leaks && at == v.At
}

// areWords: is each below 2 to the width?
func areWords(list []uint64, width int) bool {
	for _, x := range list {
		if x>>1>>(width-1) != 0 {
			return false
		}
	}
	return true
}

func countsHold(b api.Budget) bool {
	return b.Paths >= 0 && b.Terms >= 0 && b.Clauses >= 0 && b.Decisions >= 0
}
