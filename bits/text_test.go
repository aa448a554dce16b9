package bits

import (
	"math"
	"math/big"
	"strings"
	"testing"

	"cadence/api"
)

func TestNumber(t *testing.T) {
	cases := []struct {
		s string
		v uint64
	}{
		{"0xfF", 255}, {"0", 0}, {"00", 0}, {"007", 7}, {"999", 999}, {"1000", 1000}, {"0x0", 0}, {"0x00a", 10}, {"0x3e8", 1000}, {"0xABCDEF", 0xabcdef}, {"0xabcdef", 0xabcdef}, {"0x9", 9},
		{"18446744073709551615", math.MaxUint64}, {"0xffffffffffffffff", math.MaxUint64}, {"0xFFFFFFFFFFFFFFFF", math.MaxUint64}, {"9223372036854775808", 1 << 63},
		{strings.Repeat("0", 100) + "18446744073709551615", math.MaxUint64}, {"0x" + strings.Repeat("0", 100) + "ffffffffffffffff", math.MaxUint64},
	}
	for _, c := range cases {
		if v, e := Number(c.s); v != c.v || e != api.OK {
			t.Errorf("Number(%q) = %d %d, not %d", c.s, v, e, c.v)
		}
	}
}

func TestNumberRefuses(t *testing.T) {
	texts := []string{
		"18446744073709551616", "18446744073709551620", "28446744073709551615", "99999999999999999999", "184467440737095516150", strings.Repeat("9", 1000),
		"0x10000000000000000", "0xfffffffffffffffff", "0x" + strings.Repeat("f", 1000),
		"", "0x", "+1", "-1", "-0", "x", "0X1", "0Xff", "x1", "00x1", "0x0x1", "0x+1", "0x-1", "0xg", "0xG", "0x/", "0x:", "0x@", "0x`", "0b1", "0o7", "1_0", "0x_1", "0x1_0", "_1", "a", "ff", "1a", "1f",
		" 1", "1 ", "1\n", "\t1", "0x 1", "1.", "1e3", "1.0", "/", ":", "1\x00", "\x001", "\xff", "é", "１", "٣", "0xé",
	}
	for _, s := range texts {
		if v, e := Number(s); v != 0 || e != api.ErrNumber {
			t.Errorf("Number(%q) = %d %d, not ErrNumber", s, v, e)
		}
	}
}

// TestNumberOneByte: of all texts of one byte, and those behind 0x, just the digits are numbers.
func TestNumberOneByte(t *testing.T) {
	for b := 0; b < 256; b++ {
		digit := strings.IndexByte("0123456789abcdef", byte(b))
		if digit < 0 && b >= 'A' && b <= 'F' {
			digit = 10 + b - 'A'
		}
		checkDigit(t, string([]byte{byte(b)}), digit, 10)
		checkDigit(t, string([]byte{'0', 'x', byte(b)}), digit, 16)
	}
}

func checkDigit(t *testing.T, s string, digit, base int) {
	t.Helper()
	want, code := uint64(0), api.ErrNumber
	if digit >= 0 && digit < base {
		want, code = uint64(digit), api.OK
	}
	if v, e := Number(s); v != want || e != code {
		t.Errorf("Number(%q) = %d %d, not %d %d", s, v, e, want, code)
	}
}

func TestText(t *testing.T) {
	cases := []struct {
		x uint64
		s string
	}{
		{0, "0"}, {1, "1"}, {10, "10"}, {255, "255"}, {999, "999"}, {1000, "0x3e8"}, {1001, "0x3e9"}, {0xabcdef, "0xabcdef"}, {4096, "0x1000"}, {1 << 63, "0x8000000000000000"}, {math.MaxUint64, "0xffffffffffffffff"},
	}
	for _, c := range cases {
		if s := Text(c.x); s != c.s {
			t.Errorf("Text(%d) = %q, not %q", c.x, s, c.s)
		}
	}
}

func TestTextAndBack(t *testing.T) {
	var xs []uint64
	for x := uint64(0); x < 5000; x++ {
		xs = append(xs, x, math.MaxUint64-x)
	}
	for i := 0; i < 64; i++ {
		xs = append(xs, 1<<i, 1<<i-1, 1<<i+1, 0x9e3779b97f4a7c15>>i)
	}
	for _, x := range xs {
		if v, e := Number(Text(x)); v != x || e != api.OK {
			t.Errorf("Number(Text(%d)) = %d %d", x, v, e)
		}
		want := natural(x).Text(10)
		if x >= 1000 {
			want = "0x" + new(big.Int).SetUint64(x).Text(16)
		}
		if s := Text(x); s != want {
			t.Errorf("Text(%d) = %q, not %q", x, s, want)
		}
	}
}

func TestName(t *testing.T) {
	long := "abcdefghijklmnopqrstuvwx"
	for _, s := range []string{"_a1", "a", "z", "A", "Z", "_", "__", "a0", "a9", "_0", "aZ_9", long, strings.Repeat("_", 24), "Z" + strings.Repeat("0", 23), "if", "program"} {
		if !Name(s) {
			t.Errorf("Name(%q) = false", s)
		}
	}
	refused := []string{
		"", "1a", "0", "9", "é", "aé", "éa", long + "y", long + "0", strings.Repeat("_", 25), strings.Repeat("a", 1000),
		"a-b", "a b", " a", "a ", "a\n", "a\x00", "\x00", "a.b", "-", "a[", "a`", "a{", "a@", "a/", "a:", "\xff", "a\xff", "ａ", "a٣", "\ufffd", "a\u0301",
		// 23 bytes and one rune of two: 25 bytes, 24 runes.
		long[:23] + "é",
	}
	for _, s := range refused {
		if Name(s) {
			t.Errorf("Name(%q) = true", s)
		}
	}
}

// TestNameEachByte: each byte as the first, and behind another one.
func TestNameEachByte(t *testing.T) {
	const first = "abcdefghijklmnopqrstuvwxyzABCDEFGHIJKLMNOPQRSTUVWXYZ_"
	for b := 0; b < 256; b++ {
		begins := strings.IndexByte(first, byte(b)) >= 0
		follows := begins || b >= '0' && b <= '9'
		if s := string([]byte{byte(b)}); Name(s) != begins {
			t.Errorf("Name(%q) = %v", s, !begins)
		}
		for _, s := range []string{string([]byte{'a', byte(b)}), string([]byte{'_', byte(b), '0'})} {
			if Name(s) != follows {
				t.Errorf("Name(%q) = %v", s, !follows)
			}
		}
	}
}
