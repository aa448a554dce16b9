package dpll

// choice tells the variable of a place, from 0 on: of those without a value the one of the least place is decided.
type choice func(place int) int

// byNumber: the least variable.
func byNumber(place int) int { return place + 1 }

// byList: the variable that stands first in a list of all.
func byList(order []int32) choice {
	return func(place int) int { return int(order[place]) }
}

// firstOf: all variables, those of a list ahead of the others; false, if it has one twice, or something that is none.
func firstOf(first []int, vars int) ([]int32, bool) {
	taken := make([]bool, vars+1)
	order := make([]int32, 0, vars)
	for _, v := range first {
		if v < 1 || v > vars || taken[v] {
			return nil, false
		}
		taken[v] = true
		order = append(order, int32(v))
	}
	for v := 1; v <= vars; v++ {
		if !taken[v] {
			order = append(order, int32(v))
		}
	}
	return order, true
}
