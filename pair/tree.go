package pair

// tree: items by their numbers, from 0 on; nil has none. A tree is never written to: put makes another one, which shares all but a few nodes with it. So a fork need not copy what a way knows, which may be very much, and there may be very many forks.
type tree[T any] struct {
	item  T
	under [2]*tree[T]
}

// at: the item with a number; the zero one, if none was put there.
func (t *tree[T]) at(n int) (item T) {
	for ; t != nil; n = (n - 1) / 2 {
		if n == 0 {
			return t.item
		}
		t = t.under[(n-1)%2]
	}
	return item
}

// put: a tree with that item there, and else the same ones.
func (t *tree[T]) put(n int, item T) *tree[T] {
	var made tree[T]
	if t != nil {
		made = *t
	}
	if n == 0 {
		made.item = item
		return &made
	}
	side := (n - 1) % 2
	made.under[side] = made.under[side].put((n-1)/2, item)
	return &made
}

// truths: in their order, each of them once.
type truths struct {
	list *tree[int]
	many int
	has  *tree[bool] // by their terms' numbers
}

// and: one more behind the others, if it is none of them.
func (t truths) and(truth int) truths {
	if t.has.at(truth) {
		return t
	}
	return truths{t.list.put(t.many, truth), t.many + 1, t.has.put(truth, true)}
}

func (t truths) all() []int {
	all := make([]int, t.many)
	for i := range all {
		all[i] = t.list.at(i)
	}
	return all
}
