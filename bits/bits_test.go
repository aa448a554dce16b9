package bits

import (
	"math"
	"math/big"
	"testing"

	"cadence/api"
)

// noWidths: numbers that are no width.
var noWidths = []int{math.MinInt, math.MinInt + 1, -64, -1, 0, 65, 66, 128, math.MaxInt - 1, math.MaxInt}

var shiftWidths = []int{1, 2, 4, 8, 16, 32, 64}

func isOneOf(n int, list []int) bool {
	for _, m := range list {
		if m == n {
			return true
		}
	}
	return false
}

// someOps: all operations, and numbers on both sides that are none.
func someOps() []int {
	ops := []int{math.MinInt, -1 << 32, math.MaxInt, 1 << 32}
	for op := -api.OpLast; op <= 2*api.OpLast; op++ {
		ops = append(ops, op)
	}
	return ops
}

// words: all words of a small width; of a greater one its edges and some between.
func words(w int) []uint64 {
	if w <= 4 {
		all := make([]uint64, 1<<w)
		for i := range all {
			all[i] = uint64(i)
		}
		return all
	}
	top := uint64(1) << (w - 1)
	some := []uint64{0, 1, 2, 3, 7, 10, uint64(w) - 1, uint64(w), uint64(w) + 1, top - 1, top, top + 1, 2*top - 2, 2*top - 1, 0x9e3779b97f4a7c15, 0xbf58476d1ce4e5b9, 1<<32 - 1, 1 << 32}
	for i, x := range some {
		if w < 64 {
			some[i] = x % (1 << w)
		}
	}
	return some
}

// modulo: the number as a word of w bits.
func modulo(w int, x *big.Int) uint64 {
	size := new(big.Int).Lsh(big.NewInt(1), uint(w))
	return new(big.Int).Mod(x, size).Uint64()
}

func natural(x uint64) *big.Int { return new(big.Int).SetUint64(x) }

// signedNumber: by its definition, as a whole number.
func signedNumber(w int, x uint64) *big.Int {
	n := natural(x)
	if n.Bit(w-1) == 1 {
		n.Sub(n, new(big.Int).Lsh(big.NewInt(1), uint(w)))
	}
	return n
}

// fromBits: the word whose bit i is bit(i).
func fromBits(w int, bit func(i int) uint64) uint64 {
	var x uint64
	for i := 0; i < w; i++ {
		x |= bit(i) << i
	}
	return x
}

func TestRight(t *testing.T) {
	for w := 1; w <= 64; w++ {
		if !Right(w) {
			t.Errorf("Right(%d) = false", w)
		}
	}
	for _, w := range noWidths {
		if Right(w) {
			t.Errorf("Right(%d) = true", w)
		}
	}
}

func TestTrim(t *testing.T) {
	const x = 0xfedcba9876543210
	cases := []struct {
		w    int
		x, v uint64
	}{
		{1, 0, 0}, {1, 1, 1}, {1, 2, 0}, {1, math.MaxUint64, 1},
		{4, 0x1f, 15}, {8, x, 0x10}, {32, x, 0x76543210}, {63, math.MaxUint64, math.MaxInt64},
		{64, x, x}, {65, x, x}, {99, 3, 3}, {128, x, x}, {math.MaxInt, x, x},
		{0, x, 0}, {-1, x, 0}, {-64, x, 0}, {math.MinInt, x, 0},
	}
	for _, c := range cases {
		if v := Trim(c.w, c.x); v != c.v {
			t.Errorf("Trim(%d, %#x) = %#x, not %#x", c.w, c.x, v, c.v)
		}
	}
	for w := 1; w <= 64; w++ {
		if v, want := Trim(w, x), modulo(w, natural(x)); v != want {
			t.Errorf("Trim(%d, %#x) = %#x, not %#x", w, uint64(x), v, want)
		}
	}
}

func TestSigned(t *testing.T) {
	cases := []struct {
		w int
		x uint64
		v int64
	}{
		{8, 0x80, -128}, {8, 0x7f, 127}, {8, 0xff, -1}, {8, 0x17f, 127}, {8, 0x180, -128},
		{1, 0, 0}, {1, 1, -1}, {1, 2, 0}, {3, 4, -4}, {64, 1 << 63, math.MinInt64}, {64, math.MaxUint64, -1},
		{64, math.MaxInt64, math.MaxInt64}, {63, 1 << 62, -1 << 62},
	}
	for _, c := range cases {
		if v := Signed(c.w, c.x); v != c.v {
			t.Errorf("Signed(%d, %#x) = %d, not %d", c.w, c.x, v, c.v)
		}
	}
	for w := 1; w <= 64; w++ {
		for _, x := range words(w) {
			if v, want := Signed(w, x), signedNumber(w, x); want.Cmp(big.NewInt(v)) != 0 {
				t.Errorf("Signed(%d, %#x) = %d, not %v", w, x, v, want)
			}
		}
	}
	for _, w := range noWidths {
		if v := Signed(w, math.MaxUint64); v != 0 {
			t.Errorf("Signed(%d, all ones) = %d, not 0", w, v)
		}
	}
}

func TestUn(t *testing.T) {
	cases := []struct {
		op, w int
		x, v  uint64
	}{
		{api.OpNeg, 8, 1, 255}, {api.OpNeg, 8, 0, 0}, {api.OpNeg, 8, 128, 128}, {api.OpNeg, 64, 1, math.MaxUint64},
		{api.OpNeg, 8, 0x101, 255}, {api.OpNeg, 1, 1, 1}, {api.OpNeg, 3, 3, 5},
		{api.OpCom, 8, 1, 254}, {api.OpCom, 8, 0xff, 0}, {api.OpCom, 8, 0xf0f, 0xf0}, {api.OpCom, 64, 0, math.MaxUint64}, {api.OpCom, 1, 0, 1},
	}
	for _, c := range cases {
		if v, e := Un(c.op, c.w, c.x); v != c.v || e != api.OK {
			t.Errorf("Un(%d, %d, %#x) = %#x %d, not %#x", c.op, c.w, c.x, v, e, c.v)
		}
	}
	for w := 1; w <= 64; w++ {
		for _, x := range words(w) {
			want := fromBits(w, func(i int) uint64 { return 1 - x>>i&1 })
			if v, e := Un(api.OpCom, w, x); v != want || e != api.OK {
				t.Errorf("Un(OpCom, %d, %#x) = %#x %d, not %#x", w, x, v, e, want)
			}
			want = modulo(w, new(big.Int).Neg(natural(x)))
			if v, e := Un(api.OpNeg, w, x); v != want || e != api.OK {
				t.Errorf("Un(OpNeg, %d, %#x) = %#x %d, not %#x", w, x, v, e, want)
			}
		}
	}
}

func TestUnRefuses(t *testing.T) {
	for _, op := range someOps() {
		right := op == api.OpCom || op == api.OpNeg
		for _, w := range append([]int{1, 8, 64}, noWidths...) {
			want := api.OK
			switch {
			case !right:
				want = api.ErrOp
			case isOneOf(w, noWidths):
				want = api.ErrWidth
			}
			v, e := Un(op, w, 5)
			if e != want || e != api.OK && v != 0 {
				t.Errorf("Un(%d, %d, 5) = %d %d, not the error %d", op, w, v, e, want)
			}
		}
	}
}

func TestBinExamples(t *testing.T) {
	cases := []struct {
		op, w   int
		x, y, v uint64
	}{
		{api.OpAdd, 8, 200, 100, 44}, {api.OpDiv, 8, 7, 0, 255}, {api.OpRem, 8, 7, 0, 7}, {api.OpShl, 8, 3, 9, 6}, {api.OpSar, 8, 0x90, 4, 0xf9}, {api.OpRol, 4, 9, 1, 3},
		{api.OpBand, 8, 0xcc, 0xaa, 0x88}, {api.OpBor, 8, 0xcc, 0xaa, 0xee}, {api.OpBxor, 8, 0xcc, 0xaa, 0x66},
		{api.OpSub, 8, 1, 2, 255}, {api.OpSub, 1, 0, 1, 1}, {api.OpMul, 8, 16, 17, 16}, {api.OpMul, 64, 1 << 63, 2, 0}, {api.OpMul, 64, math.MaxUint64, math.MaxUint64, 1},
		{api.OpAdd, 64, math.MaxUint64, 1, 0}, {api.OpAdd, 3, 7, 7, 6},
		// Without sign, and with bits above the width: these do not count.
		{api.OpDiv, 8, 0xff, 2, 127}, {api.OpDiv, 8, 0x1ff, 0x102, 127}, {api.OpDiv, 8, 7, 0x100, 255}, {api.OpDiv, 64, 9, 0, math.MaxUint64}, {api.OpDiv, 1, 0, 0, 1}, {api.OpDiv, 3, 0, 8, 7},
		{api.OpRem, 8, 0x1ff, 0x102, 1}, {api.OpRem, 8, 0x107, 0x100, 7}, {api.OpRem, 64, math.MaxUint64, 0, math.MaxUint64},
		// By w - 1, w, w + 1 and more.
		{api.OpShl, 8, 1, 7, 128}, {api.OpShl, 8, 1, 8, 1}, {api.OpShl, 8, 1, 255, 128}, {api.OpShl, 1, 1, 1, 1}, {api.OpShl, 64, 1, 64, 1}, {api.OpShl, 64, 1, 63, 1 << 63}, {api.OpShl, 8, 1, 0x101, 2},
		{api.OpShr, 8, 0x80, 7, 1}, {api.OpShr, 8, 0x80, 8, 0x80}, {api.OpShr, 8, 0x180, 1, 0x40}, {api.OpShr, 64, 1 << 63, 63, 1}, {api.OpShr, 64, 5, 128, 5}, {api.OpShr, 2, 3, 3, 1},
		{api.OpSar, 8, 0x80, 7, 0xff}, {api.OpSar, 8, 0x80, 8, 0x80}, {api.OpSar, 8, 0x170, 4, 7}, {api.OpSar, 64, 1 << 63, 63, math.MaxUint64}, {api.OpSar, 1, 1, 1, 1}, {api.OpSar, 8, 0x7f, 7, 0},
		{api.OpRol, 8, 0x81, 8, 0x81}, {api.OpRol, 8, 0x181, 9, 3}, {api.OpRol, 64, 1 << 63, 1, 1}, {api.OpRol, 64, 6, 64, 6}, {api.OpRol, 1, 1, 7, 1},
		{api.OpRor, 8, 1, 1, 0x80}, {api.OpRor, 8, 0x101, 8, 1}, {api.OpRor, 64, 1, 1, 1 << 63}, {api.OpRor, 64, 6, 64, 6}, {api.OpRor, 4, 9, 1, 12},
	}
	for _, c := range cases {
		if v, e := Bin(c.op, c.w, c.x, c.y); v != c.v || e != api.OK {
			t.Errorf("Bin(%d, %d, %#x, %#x) = %#x %d, not %#x", c.op, c.w, c.x, c.y, v, e, c.v)
		}
	}
}

// arithmetic: Bin but its shifts, with whole numbers.
func arithmetic(op, w int, x, y uint64) uint64 {
	a, b := natural(x), natural(y)
	ones := new(big.Int).Sub(new(big.Int).Lsh(big.NewInt(1), uint(w)), big.NewInt(1))
	r := new(big.Int)
	switch {
	case op == api.OpBand:
		r.And(a, b)
	case op == api.OpBor:
		r.Or(a, b)
	case op == api.OpBxor:
		r.Xor(a, b)
	case op == api.OpAdd:
		r.Add(a, b)
	case op == api.OpSub:
		r.Sub(a, b)
	case op == api.OpMul:
		r.Mul(a, b)
	case op == api.OpDiv && y == 0:
		r = ones
	case op == api.OpDiv:
		r.Quo(a, b)
	case op == api.OpRem && y == 0:
		r = a
	case op == api.OpRem:
		r.Rem(a, b)
	}
	return modulo(w, r)
}

// moved: Bin's shifts, bit by bit.
func moved(op, w int, x, y uint64) uint64 {
	n := int(new(big.Int).Mod(natural(y), big.NewInt(int64(w))).Int64())
	at := func(i int) uint64 { return x >> i & 1 }
	return fromBits(w, func(i int) uint64 {
		switch op {
		case api.OpShl:
			if i < n {
				return 0
			}
			return at(i - n)
		case api.OpShr:
			if i+n >= w {
				return 0
			}
			return at(i + n)
		case api.OpSar:
			return at(min(i+n, w-1))
		case api.OpRol:
			return at((i - n + w) % w)
		}
		return at((i + n) % w)
	})
}

func TestBinAll(t *testing.T) {
	for w := 1; w <= 64; w++ {
		for op := api.OpBand; op <= api.OpRor; op++ {
			if op >= api.OpShl && !isOneOf(w, shiftWidths) {
				continue
			}
			for _, x := range words(w) {
				for _, y := range words(w) {
					want := arithmetic(op, w, x, y)
					if op >= api.OpShl {
						want = moved(op, w, x, y)
					}
					if v, e := Bin(op, w, x, y); v != want || e != api.OK {
						t.Fatalf("Bin(%d, %d, %#x, %#x) = %#x %d, not %#x", op, w, x, y, v, e, want)
					}
				}
			}
		}
	}
}

func TestBinRefuses(t *testing.T) {
	var widths []int
	for w := -2; w <= 66; w++ {
		widths = append(widths, w)
	}
	for _, op := range someOps() {
		for _, w := range append(widths, noWidths...) {
			want := api.OK
			switch {
			case op < api.OpBand || op > api.OpRor:
				want = api.ErrOp
			case isOneOf(w, noWidths) || w < 1:
				want = api.ErrWidth
			case op >= api.OpShl && !isOneOf(w, shiftWidths):
				want = api.ErrWidth
			}
			v, e := Bin(op, w, 5, 3)
			if e != want || e != api.OK && v != 0 {
				t.Errorf("Bin(%d, %d, 5, 3) = %d %d, not the error %d", op, w, v, e, want)
			}
		}
	}
}

func TestCmp(t *testing.T) {
	cases := []struct {
		op, w int
		x, y  uint64
		v     bool
	}{
		{api.OpSlt, 8, 0xff, 0, true}, {api.OpUlt, 8, 0xff, 0, false}, {api.OpEq, 8, 0x1ff, 0xff, true}, {api.OpEq, 64, 1 << 63, 0, false},
		{api.OpUlt, 8, 0x100, 1, true}, {api.OpUle, 8, 1, 0x100, false}, {api.OpUle, 8, 5, 0x105, true}, {api.OpSle, 8, 0x80, 0x7f, true},
		{api.OpSlt, 1, 1, 0, true}, {api.OpSlt, 64, 1 << 63, 1<<63 - 1, true}, {api.OpSle, 8, 0x17f, 0x80, false}, {api.OpSlt, 8, 3, 3, false}, {api.OpUlt, 8, 3, 3, false},
	}
	for _, c := range cases {
		if v, e := Cmp(c.op, c.w, c.x, c.y); v != c.v || e != api.OK {
			t.Errorf("Cmp(%d, %d, %#x, %#x) = %v %d, not %v", c.op, c.w, c.x, c.y, v, e, c.v)
		}
	}
	for w := 1; w <= 64; w++ {
		for _, x := range words(w) {
			for _, y := range words(w) {
				plain, signed := natural(x).Cmp(natural(y)), signedNumber(w, x).Cmp(signedNumber(w, y))
				wants := map[int]bool{api.OpEq: plain == 0, api.OpUlt: plain < 0, api.OpUle: plain <= 0, api.OpSlt: signed < 0, api.OpSle: signed <= 0}
				for op, want := range wants {
					if v, e := Cmp(op, w, x, y); v != want || e != api.OK {
						t.Fatalf("Cmp(%d, %d, %#x, %#x) = %v %d, not %v", op, w, x, y, v, e, want)
					}
				}
			}
		}
	}
}

func TestCmpRefuses(t *testing.T) {
	for _, op := range someOps() {
		right := op == api.OpEq || op == api.OpUlt || op == api.OpUle || op == api.OpSlt || op == api.OpSle
		for _, w := range append([]int{1, 8, 64}, noWidths...) {
			want := api.OK
			switch {
			case !right:
				want = api.ErrOp
			case isOneOf(w, noWidths):
				want = api.ErrWidth
			}
			v, e := Cmp(op, w, 7, 7)
			if e != want || e != api.OK && v {
				t.Errorf("Cmp(%d, %d, 7, 7) = %v %d, not the error %d", op, w, v, e, want)
			}
		}
	}
}
