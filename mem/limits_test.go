package mem

import (
	"fmt"
	"testing"

	"cadence/api"
	"cadence/eval"
	"cadence/simp"
)

// TestGreatest: an array of 256 words of 64 bits, with many Stores and Loads behind one another.
func TestGreatest(t *testing.T) {
	m := simp.New()
	a := numbered(t, m, api.MaxArray, api.MaxWidth)
	i := made(t, m, "i:64")
	word := load(t, a, i)
	for n := range 200 {
		one, _ := m.Const(64, uint64(n))
		next, e := m.Bin(api.OpAdd, i, one)
		if e != api.OK {
			t.Fatal(e)
		}
		store(t, a, next, word)
		word = load(t, a, next)
	}
	// All is stored on from where it was loaded first.
	for _, x := range []uint64{0, 3, 255, 256, 1<<63 + 17, ^uint64(0)} {
		vals := []api.Value{{Name: "i", W: 64, Num: x}}
		for n := range 256 {
			vals = append(vals, api.Value{Name: fmt.Sprint("e", n), W: 64, Num: uint64(1000 + n)})
		}
		v, e := eval.Value(m.Store(), word, vals)
		if e != api.OK || v != 1000+x%256 {
			t.Fatal(x, v, e)
		}
	}
}

// TestDeep: cells as deep as parts may be nested: 65000 Stores, each of an index of its own.
func TestDeep(t *testing.T) {
	const deep = 65000
	m := simp.New()
	a := array(t, m, "0", "1")
	v := made(t, m, "v")
	for n := range deep {
		store(t, a, made(t, m, fmt.Sprint("i", n)), v)
	}
	_, _, depth, e := eval.Size(m.Store(), a.Cells()[0])
	if e != api.OK || depth < deep {
		t.Fatal(depth, e)
	}
	i := made(t, m, "i0")
	word := load(t, a, i)
	vals := []api.Value{{Name: "v", W: 4, Num: 9}}
	x, e := eval.Value(m.Store(), word, vals) // all indices are 0
	is(t, "at 0", []any{x, e}, []any{9, api.OK})
	x, e = eval.Value(m.Store(), a.Cells()[1], vals)
	is(t, "at 1", []any{x, e}, []any{1, api.OK})
	is(t, "a clone", load(t, a.Clone(), i), word)
}
