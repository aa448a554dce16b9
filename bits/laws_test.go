package bits

import (
	"math"
	"testing"

	"cadence/api"
)

// bin: of what must be right.
func bin(t *testing.T, op, w int, x, y uint64) uint64 {
	t.Helper()
	v, e := Bin(op, w, x, y)
	if e != api.OK {
		t.Fatalf("Bin(%d, %d, %#x, %#x): error %d", op, w, x, y, e)
	}
	return v
}

func un(t *testing.T, op, w int, x uint64) uint64 {
	t.Helper()
	v, e := Un(op, w, x)
	if e != api.OK {
		t.Fatalf("Un(%d, %d, %#x): error %d", op, w, x, e)
	}
	return v
}

func cmp(t *testing.T, op, w int, x, y uint64) bool {
	t.Helper()
	v, e := Cmp(op, w, x, y)
	if e != api.OK {
		t.Fatalf("Cmp(%d, %d, %#x, %#x): error %d", op, w, x, y, e)
	}
	return v
}

// checkLaws: what P108 says of two words of any width.
func checkLaws(t *testing.T, w int, x, y uint64) {
	t.Helper()
	if v := bin(t, api.OpSub, w, bin(t, api.OpAdd, w, x, y), y); v != x {
		t.Errorf("width %d: %#x + %#x - %#x = %#x", w, x, y, y, v)
	}
	if v, c := un(t, api.OpNeg, w, x), un(t, api.OpCom, w, x); v != bin(t, api.OpAdd, w, c, 1) {
		t.Errorf("width %d: -%#x = %#x, its complement %#x", w, x, v, c)
	}
	product := bin(t, api.OpMul, w, bin(t, api.OpDiv, w, x, y), y)
	if v := bin(t, api.OpAdd, w, product, bin(t, api.OpRem, w, x, y)); v != x {
		t.Errorf("width %d: (x / y) * y + x %% y = %#x with x = %#x, y = %#x", w, v, x, y)
	}
	high := uint64(1) << (w - 1)
	if cmp(t, api.OpSlt, w, x, y) != cmp(t, api.OpUlt, w, x^high, y^high) {
		t.Errorf("width %d: slt of %#x and %#x is not ult with the highest bit turned", w, x, y)
	}
}

// checkShiftLaws: what P108 says of a word of a width of shifts.
func checkShiftLaws(t *testing.T, w int, x, n uint64) {
	t.Helper()
	if v := bin(t, api.OpRor, w, bin(t, api.OpRol, w, x, n), n); v != x {
		t.Errorf("width %d: %#x turned left and right by %d = %#x", w, x, n, v)
	}
	if n >= uint64(w) {
		return
	}
	power := Trim(w, 1<<n)
	if v, want := bin(t, api.OpShl, w, x, n), bin(t, api.OpMul, w, x, power); v != want {
		t.Errorf("width %d: %#x shifted left by %d = %#x, not %#x", w, x, n, v, want)
	}
}

func TestLaws(t *testing.T) {
	for w := 1; w <= 64; w++ {
		for _, x := range words(w) {
			for _, y := range words(w) {
				checkLaws(t, w, x, y)
			}
		}
	}
	for _, w := range shiftWidths {
		for _, x := range words(w) {
			for _, n := range words(w) {
				checkShiftLaws(t, w, x, n)
			}
			for n := 0; n < w; n++ {
				checkShiftLaws(t, w, x, uint64(n))
			}
		}
	}
}

func TestCatOfSlices(t *testing.T) {
	for w := 2; w <= 64; w++ {
		for _, x := range words(w) {
			for n := 1; n < w; n++ {
				high, e1 := Slice(w, x, n, w-n)
				low, e2 := Slice(w, x, 0, n)
				v, e3 := Cat(w-n, high, n, low)
				if v != x || e1 != api.OK || e2 != api.OK || e3 != api.OK {
					t.Errorf("width %d: %#x parted at %d = %#x, errors %d %d %d", w, x, n, v, e1, e2, e3)
				}
			}
		}
	}
}

// TestHighBitsDoNotCount: a number that is handed in as a word counts with its lowest bits alone.
func TestHighBitsDoNotCount(t *testing.T) {
	for _, w := range []int{1, 2, 3, 4, 8, 16, 31, 32, 63} {
		above := uint64(math.MaxUint64) << w
		for _, x := range words(w) {
			for _, y := range words(w) {
				checkHighBits(t, w, x, y, above)
			}
		}
	}
}

func checkHighBits(t *testing.T, w int, x, y, above uint64) {
	t.Helper()
	for op := api.OpBand; op <= api.OpRor; op++ {
		v, e := Bin(op, w, x, y)
		if r, f := Bin(op, w, x|above, y|above); r != v || f != e {
			t.Errorf("Bin(%d, %d, %#x, %#x): bits above the width count", op, w, x, y)
		}
	}
	for op := api.OpEq; op <= api.OpSle; op++ {
		if cmp(t, op, w, x, y) != cmp(t, op, w, x|above, y|above) {
			t.Errorf("Cmp(%d, %d, %#x, %#x): bits above the width count", op, w, x, y)
		}
	}
	for _, op := range []int{api.OpCom, api.OpNeg} {
		if un(t, op, w, x) != un(t, op, w, x|above) {
			t.Errorf("Un(%d, %d, %#x): bits above the width count", op, w, x)
		}
	}
	for _, op := range []int{api.OpZext, api.OpSext} {
		v, e := Ext(op, w, x, w+1)
		if r, f := Ext(op, w, x|above, w+1); r != v || f != e {
			t.Errorf("Ext(%d, %d, %#x): bits above the width count", op, w, x)
		}
	}
	v, e := Cat(1, x, w, y)
	if r, f := Cat(1, x, w, y|above); r != v || f != e {
		t.Errorf("Cat(1, %#x, %d, %#x): bits above the width count", x, w, y)
	}
	if Signed(w, x) != Signed(w, x|above) {
		t.Errorf("Signed(%d, %#x): bits above the width count", w, x)
	}
}

// TestEnds: no call panics, and the same call answers the same, at the ends of the types' ranges.
func TestEnds(t *testing.T) {
	ints := []int{math.MinInt, math.MinInt + 1, -65, -64, -1, 0, 1, 2, 3, 63, 64, 65, math.MaxInt - 1, math.MaxInt}
	nums := []uint64{0, 1, 63, 64, 65, 1 << 63, math.MaxUint64}
	ops := append([]int{math.MinInt, -1, 0, math.MaxInt}, someOps()...)
	for _, w := range ints {
		for _, x := range nums {
			for _, y := range nums {
				for _, op := range ops {
					twice(t, func() (any, any) { v, e := Un(op, w, x); return v, e })
					twice(t, func() (any, any) { v, e := Bin(op, w, x, y); return v, e })
					twice(t, func() (any, any) { v, e := Cmp(op, w, x, y); return v, e })
				}
				for _, n := range ints {
					twice(t, func() (any, any) { v, e := Cat(w, x, n, y); return v, e })
				}
			}
			for _, n := range ints {
				for _, m := range ints {
					twice(t, func() (any, any) { v, e := Slice(w, x, n, m); return v, e })
					twice(t, func() (any, any) { v, e := Ext(n, w, x, m); return v, e })
				}
			}
			twice(t, func() (any, any) { return Trim(w, x), Signed(w, x) })
		}
	}
}

func twice(t *testing.T, call func() (any, any)) {
	t.Helper()
	a, b := call()
	c, d := call()
	if a != c || b != d {
		t.Errorf("%v %v, then %v %v", a, b, c, d)
	}
}
