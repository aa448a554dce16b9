package bits

import (
	"math"
	"testing"

	"cadence/api"
)

func TestCat(t *testing.T) {
	cases := []struct {
		w    int
		x    uint64
		v    int
		y, r uint64
	}{
		{4, 0xa, 8, 0xbc, 0xabc}, {4, 0x1a, 8, 0x1bc, 0xabc}, {1, 1, 63, 0, 1 << 63}, {63, 1, 1, 1, 3}, {63, math.MaxUint64, 1, 0, math.MaxUint64 - 1},
		{32, 1, 32, math.MaxUint64, 1<<33 - 1}, {1, 1, 1, 0, 2}, {1, 0, 1, 1, 1},
	}
	for _, c := range cases {
		if r, e := Cat(c.w, c.x, c.v, c.y); r != c.r || e != api.OK {
			t.Errorf("Cat(%d, %#x, %d, %#x) = %#x %d, not %#x", c.w, c.x, c.v, c.y, r, e, c.r)
		}
	}
	for w := -2; w <= 66; w++ {
		for v := -2; v <= 66; v++ {
			want := api.OK
			if w < 1 || v < 1 || w+v > 64 {
				want = api.ErrWidth
			}
			r, e := Cat(w, 1, v, 1)
			if e != want || e == api.OK && r != 1<<v+1 || e != api.OK && r != 0 {
				t.Errorf("Cat(%d, 1, %d, 1) = %#x %d, not the error %d", w, v, r, e, want)
			}
		}
	}
	for _, w := range noWidths {
		for _, v := range append([]int{1, 64}, noWidths...) {
			if r, e := Cat(w, 1, v, 1); r != 0 || e != api.ErrWidth {
				t.Errorf("Cat(%d, 1, %d, 1) = %#x %d", w, v, r, e)
			}
			if r, e := Cat(v, 1, w, 1); r != 0 || e != api.ErrWidth {
				t.Errorf("Cat(%d, 1, %d, 1) = %#x %d", v, w, r, e)
			}
		}
	}
}

func TestSlice(t *testing.T) {
	cases := []struct {
		w       int
		x       uint64
		from, n int
		v       uint64
	}{
		{12, 0xabc, 4, 4, 0xb}, {12, 0xabc, 0, 12, 0xabc}, {12, 0xfabc, 8, 4, 0xa}, {64, 1 << 63, 63, 1, 1}, {64, math.MaxUint64, 0, 64, math.MaxUint64},
		{64, math.MaxUint64, 1, 63, math.MaxInt64}, {1, 1, 0, 1, 1}, {1, 2, 0, 1, 0}, {8, 0x5a, 0, 4, 0xa},
	}
	for _, c := range cases {
		if v, e := Slice(c.w, c.x, c.from, c.n); v != c.v || e != api.OK {
			t.Errorf("Slice(%d, %#x, %d, %d) = %#x %d, not %#x", c.w, c.x, c.from, c.n, v, e, c.v)
		}
	}
	const x = 0x9e3779b97f4a7c15
	for _, w := range []int{1, 2, 12, 63, 64} {
		for from := -2; from <= 66; from++ {
			for n := -2; n <= 66; n++ {
				if n < 1 || from < 0 || from+n > w {
					if v, e := Slice(w, x, from, n); v != 0 || e != api.ErrWidth {
						t.Errorf("Slice(%d, x, %d, %d) = %#x %d, not ErrWidth", w, from, n, v, e)
					}
					continue
				}
				want := fromBits(n, func(i int) uint64 { return x >> (from + i) & 1 })
				if v, e := Slice(w, x, from, n); v != want || e != api.OK {
					t.Errorf("Slice(%d, x, %d, %d) = %#x %d, not %#x", w, from, n, v, e, want)
				}
			}
		}
	}
}

func TestSliceRefuses(t *testing.T) {
	for _, w := range noWidths {
		if v, e := Slice(w, 1, 0, 1); v != 0 || e != api.ErrWidth {
			t.Errorf("Slice(%d, 1, 0, 1) = %#x %d", w, v, e)
		}
	}
	cases := []struct{ w, from, n int }{
		// Sums that would leave the range of an int.
		{12, 9, 4}, {8, math.MaxInt, 1}, {8, 1, math.MaxInt}, {8, math.MaxInt, math.MaxInt}, {64, math.MaxInt - 1, 3},
		{8, math.MinInt, 1}, {8, 0, math.MinInt}, {8, math.MinInt, math.MinInt}, {8, math.MinInt, math.MaxInt}, {8, math.MaxInt, math.MinInt}, {8, -1, 2}, {8, 8, 1}, {8, 0, 9}, {8, 0, 0}, {8, 8, 0},
	}
	for _, c := range cases {
		if v, e := Slice(c.w, math.MaxUint64, c.from, c.n); v != 0 || e != api.ErrWidth {
			t.Errorf("Slice(%d, all ones, %d, %d) = %#x %d, not ErrWidth", c.w, c.from, c.n, v, e)
		}
	}
}

func TestExt(t *testing.T) {
	cases := []struct {
		op, w int
		x     uint64
		to    int
		v     uint64
	}{
		{api.OpSext, 4, 8, 8, 0xf8}, {api.OpSext, 4, 7, 8, 7}, {api.OpSext, 4, 0x17, 8, 7}, {api.OpSext, 1, 1, 64, math.MaxUint64}, {api.OpSext, 64, 1 << 63, 64, 1 << 63}, {api.OpSext, 4, 8, 4, 8}, {api.OpSext, 1, 1, 1, 1},
		{api.OpZext, 4, 8, 8, 8}, {api.OpZext, 4, 0x18, 8, 8}, {api.OpZext, 1, 1, 64, 1}, {api.OpZext, 64, math.MaxUint64, 64, math.MaxUint64}, {api.OpZext, 4, 0xff, 4, 15},
	}
	for _, c := range cases {
		if v, e := Ext(c.op, c.w, c.x, c.to); v != c.v || e != api.OK {
			t.Errorf("Ext(%d, %d, %#x, %d) = %#x %d, not %#x", c.op, c.w, c.x, c.to, v, e, c.v)
		}
	}
	for w := 1; w <= 64; w++ {
		for to := w; to <= 64; to++ {
			for _, x := range words(w) {
				if v, e := Ext(api.OpZext, w, x, to); v != x || e != api.OK {
					t.Errorf("Ext(OpZext, %d, %#x, %d) = %#x %d", w, x, to, v, e)
				}
				want := modulo(to, signedNumber(w, x))
				if v, e := Ext(api.OpSext, w, x, to); v != want || e != api.OK {
					t.Errorf("Ext(OpSext, %d, %#x, %d) = %#x %d, not %#x", w, x, to, v, e, want)
				}
			}
		}
	}
}

func TestExtRefuses(t *testing.T) {
	pairs := [][2]int{{4, 8}, {8, 8}, {64, 64}, {8, 7}, {64, 63}, {2, 1}}
	for _, w := range noWidths {
		pairs = append(pairs, [2]int{w, 8}, [2]int{8, w}, [2]int{w, w})
	}
	for _, op := range someOps() {
		for i, p := range pairs {
			want := api.OK
			switch {
			case op != api.OpZext && op != api.OpSext:
				want = api.ErrOp
			case i >= 3:
				want = api.ErrWidth
			}
			v, e := Ext(op, p[0], 5, p[1])
			if e != want || e != api.OK && v != 0 {
				t.Errorf("Ext(%d, %d, 5, %d) = %d %d, not the error %d", op, p[0], p[1], v, e, want)
			}
		}
	}
}
