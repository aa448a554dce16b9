package tseitin

// marks: two bits a variable, one for each of its literals.
type marks []uint64

func newMarks(vars int) marks { return make(marks, (vars+31)/32) }

func (m marks) add(l int) {
	word, bit := spot(l)
	m[word] |= bit
}

func (m marks) has(l int) bool {
	word, bit := spot(l)
	return m[word]&bit != 0
}

// spot: where the bit of a literal stands.
func spot(l int) (word int, bit uint64) {
	place := 2*l - 2
	if l < 0 {
		place = -2*l - 1
	}
	return place / 64, 1 << (place % 64)
}
