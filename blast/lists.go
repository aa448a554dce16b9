package blast

// each: a list made of another, from its first place on.
func each[T, R any](list []T, f func(place int, x T) R) []R {
	made := make([]R, len(list))
	for i, x := range list {
		made[i] = f(i, x)
	}
	return made
}

// both: a list made of two lists of one length, from their first place on.
func both[T, R any](list, other []T, f func(x, y T) R) []R {
	return each(list, func(i int, x T) R { return f(x, other[i]) })
}

// along: what comes of r by going along two lists of one length, from their first place on.
func along[T, R any](list, other []T, r R, f func(r R, x, y T) R) R {
	for i, x := range list {
		r = f(r, x, other[i])
	}
	return r
}
