package pair

// twice: what both copies have, each for itself.
type twice[T any] struct{ one, two T }

// of: what the copy with that number has.
func (t twice[T]) of(copy int) T {
	if copy == 1 {
		return t.one
	}
	return t.two
}

func isCopy(n int) bool { return n == 1 || n == 2 }

// each: what becomes of it in each copy.
func each[T, U any](t twice[T], become func(T) U) twice[U] {
	return twice[U]{become(t.one), become(t.two)}
}

// with: what becomes of it in each copy, with something else that the copy has.
func with[T, S, U any](t twice[T], s twice[S], become func(T, S) U) twice[U] {
	return twice[U]{become(t.one, s.one), become(t.two, s.two)}
}
