package need

import (
	"fmt"
	"math/big"
	"slices"
	"testing"

	"cadence/api"
	"cadence/flat"
)

// TestParts: an if with both parts, with one, with none; of a number (P2001).
func TestParts(t *testing.T) {
	mul, add := list(ins(api.EMul)), list(ins(api.EAdd))
	codeIs(t, "none", "2 2 1 672 4095 672", branch(nil, nil))
	codeIs(t, "Then", "2 4 1 672 4095 672", branch(mul, nil))
	codeIs(t, "Else", "2 4 1 672 4095 672", branch(nil, mul))
	codeIs(t, "both", "2 8 1 672 4095 672", branch(mul, append(add, add...)))
	for _, n := range []uint64{0, 1, 15} {
		for _, parts := range [][2][]api.Ins{{nil, nil}, {mul, nil}, {nil, mul}, {mul, add}} {
			x := branch(parts[0], parts[1])
			want := codeNeed(t, base(4, x, ins(api.EDiv)))
			x.A = number(n)
			needIs(t, fmt.Sprint("of the number ", n), codeNeed(t, base(4, x, ins(api.EDiv))), want)
		}
	}
	codeIs(t, "empty lists", "2 2 1 672 4095 672", branch(list(), list()))
	textIs(t, "width 4; out x; begin if 0 { x = 1 / 1; } end", "2 6 2 5728 0 5056") // the part that is never done counts, too
}

// TestBehind: behind an if g is the greater one of both parts', and r is r times the ways of both together (P2001).
func TestBehind(t *testing.T) {
	mul, div := list(ins(api.EMul)), list(ins(api.EDiv))
	codeIs(t, "no part", "2 6 3 10784 12285 5056", branch(nil, nil), ins(api.EDiv))
	// The if: g 104; mul: 488; behind it, twice: 1584.
	codeIs(t, "Then is greater", "2 10 3 13856 12285 6592", branch(mul, list(ins(api.FCopy))), ins(api.EDiv))
	codeIs(t, "Else is greater", "2 10 3 13856 12285 6592", branch(list(ins(api.FCopy)), mul), ins(api.EDiv))
	codeIs(t, "Then alone", "2 8 3 13856 12285 6592", branch(mul, nil), ins(api.EDiv))
	// The if: 104, 672; div: 1200, 5056; behind: twice an if: 1304, 5472.
	codeIs(t, "a query in Else", "4 10 4 16672 16380 5472", branch(mul, div), branch(nil, nil))
	codeIs(t, "a query in Then", "4 10 4 16672 16380 5472", branch(div, mul), branch(nil, nil))
	codeIs(t, "queries in both", "4 10 5 21728 20475 5472", branch(div, div), branch(nil, nil))
	codeIs(t, "no query behind", "2 10 2 5728 8190 5056", branch(div, mul), ins(api.FCopy))
	codeIs(t, "no query behind, but gates", "2 16 2 5728 8190 5056", branch(div, nil), ins(api.FCopy), ins(api.ECom), ins(api.EAdd))
}

// TestWithin: ifs within others (P2001).
func TestWithin(t *testing.T) {
	one := list(branch(nil, nil))
	two := list(branch(nil, nil), branch(nil, nil))
	// g 104, 208: 672 + 1088.
	codeIs(t, "in Then", "3 4 2 1760 8190 1088", branch(one, nil))
	codeIs(t, "in Else", "3 4 2 1760 8190 1088", branch(nil, one))
	codeIs(t, "in both", "4 6 3 2848 12285 1088", branch(one, one))
	// 672; in Then 1088, then twice 1504; in Else 1088: 4 ways and 2; behind both, 6 times, g 312 + 104.
	codeIs(t, "two in Then, one in Else", "12 22 11 17376 45045 1920", branch(two, one), branch(nil, nil))
	codeIs(t, "one in Then, two in Else", "12 22 11 17376 45045 1920", branch(one, two), branch(nil, nil))
	// 672; in Then 1088; within it div, g 1304: 5472; behind it in Then, twice, g 1304 + 96; in Else copy; behind both, three times, g 1304 + 96 + 1096.
	codeIs(t, "what stands behind, within", "3 18 6 37952 24570 10240", branch(list(branch(list(ins(api.EDiv)), nil), ins(api.ESel)), list(ins(api.FCopy))), ins(api.EDiv))
}

// TestRoom: the greatest query, be it the first, the last, or one between (P2001).
func TestRoom(t *testing.T) {
	div, small := list(ins(api.EDiv)), list(load(table(1)))
	for _, r := range []struct {
		what string
		code []api.Ins
		want int
	}{
		{"none", list(ins(api.EMul), ins(api.FRelease)), 0},
		{"the only one", list(load(table(1)), ins(api.EMul)), 4 * (112 + 64)},
		{"the last one", list(load(table(1)), ins(api.EMul), load(table(1))), 4 * (112 + 384 + 112 + 64)},
		{"an earlier one, in Then", list(branch(div, small)), 4 * (104 + 1096 + 64)},
		{"a later one, in Else", list(branch(small, div)), 4 * (104 + 1096 + 64)},
		{"the if itself", list(ins(api.EMul), branch(nil, nil), ins(api.EMul)), 4 * (384 + 104 + 64)},
		{"one in Then, with gates behind it", list(branch(append(slices.Clone(div), ins(api.EMul)), small)), 4 * (104 + 1096 + 64)},
		{"one behind, by gates that stand behind the last query of Then", list(branch(append(slices.Clone(div), ins(api.EMul)), small), load(table(1))), 4 * (104 + 1096 + 384 + 112 + 64)},
		{"one far within", list(branch(list(branch(list(ins(api.EMul), load(array(256))), small)), div)), 4 * (104 + 104 + 384 + 8272 + 64)},
		{"as great again", list(branch(div, div)), 4 * (104 + 1096 + 64)},
	} {
		is(t, r.what, codeNeed(t, base(4, r.code...)).Room, r.want)
	}
}

// power: 2 to the power n.
func power(n int) *big.Int { return new(big.Int).Lsh(big.NewInt(1), uint(n)) }

// rowOfIfs: the need of n ifs without parts, one behind the other, of so many gates each, with so many bits of inputs: the i-th one, from 0 on, is reached 2 to the power i times, with (i + 1) gates.
func rowOfIfs(n, gates, bits int) api.Need {
	all := new(big.Int).Sub(power(n), big.NewInt(1)) // the sum of 2 to the power i
	ahead := new(big.Int).Mul(power(n), big.NewInt(int64(n-1)))
	ahead.Add(ahead, big.NewInt(1)) // the sum of (i + 1) times 2 to the power i
	clauses := new(big.Int).Mul(ahead, big.NewInt(int64(gates)))
	clauses.Add(clauses, new(big.Int).Mul(all, big.NewInt(64)))
	clauses.Mul(clauses, big.NewInt(4))
	each := new(big.Int).Sub(power(bits), big.NewInt(1))
	return api.Need{
		Paths:     power(n).String(),
		Terms:     new(big.Int).Mul(all, big.NewInt(2)).String(),
		Queries:   all.String(),
		Clauses:   clauses.String(),
		Decisions: each.Mul(each, all).String(),
		Room:      fmt.Sprint(4 * (n*gates + 64)),
	}
}

// TestManyIfs: one behind the other, so that the ways have no room in a word of 64 bits (P2001).
func TestManyIfs(t *testing.T) {
	for _, n := range []int{1, 2, 3, 30, 31, 32, 33, 61, 62, 63, 64, 65, 127, 128, 129, 1000, 5000} {
		needIs(t, fmt.Sprint(n, " ifs"), codeNeed(t, base(4, slices.Repeat(list(branch(nil, nil)), n)...)), rowOfIfs(n, 104, 12))
	}
	is(t, "64 of them", codeNeed(t, base(4, slices.Repeat(list(branch(nil, nil)), 64)...)).Paths, "18446744073709551616")
	needIs(t, "a loop of 70", textNeed(t, "width 64; secret k; public n; begin for i 0 70 { if n { } } end"), rowOfIfs(70, 1544, 192))
	n := codeNeed(t, base(4, slices.Repeat(list(branch(list(branch(nil, nil)), nil)), 100)...))
	is(t, "three ways each", n.Paths, new(big.Int).Exp(big.NewInt(3), big.NewInt(100), nil))
}

// TestGreatest: as many instructions as there may be, and programs as great as they may be (P2001, P1).
func TestGreatest(t *testing.T) {
	const most = 1 << 18
	f := api.Flat{Width: 64, Line: 1, Code: slices.Repeat([]api.Ins{{Op: api.FIf, A: number(0)}}, most)}
	for i := range 16 {
		f.Decls = append(f.Decls, api.Decl{Kind: api.DSecret, Name: fmt.Sprint("d", i), Size: 256})
	}
	needIs(t, "2^18 ifs, 4096 secret words", codeNeed(t, f), rowOfIfs(most, 1544, 64*2*4096))
	needIs(t, "2^18 divisions", codeNeed(t, base(64, slices.Repeat(list(ins(api.EDiv)), most)...)), api.Need{
		Paths: "1", Terms: fmt.Sprint(2 * most), Queries: fmt.Sprint(most),
		Clauses:   fmt.Sprint(4 * (201736*(most*(most+1)/2) + 64*most)),
		Decisions: new(big.Int).Mul(new(big.Int).Sub(power(192), big.NewInt(1)), big.NewInt(most)).String(),
		Room:      fmt.Sprint(4 * (201736*most + 64)),
	})
	needIs(t, "a program of 65536 steps", textNeed(t, "width 32; public n; begin for i 0 21845 { if n { } } end"), rowOfIfs(21845, 776, 32))
}

// nested: ifs within one another, with what stands in the innermost.
func nested(n int, inner []api.Ins, inBoth bool) []api.Ins {
	for range n {
		x := branch(inner, nil)
		if inBoth {
			x.Else = inner
		}
		inner = list(x)
	}
	return inner
}

// TestDeep: ifs within one another, as deep as they may be (P2001).
func TestDeep(t *testing.T) {
	n := codeNeed(t, base(4, nested(64, list(ins(api.FRelease)), false)...))
	// The if that stands within i others has a query of 4 * (104 * (i + 1) + 64).
	needIs(t, "64 in Then", n, told(fmt.Sprint("65 130 64 ", 4*(104*(64*65/2)+64*64), " ", 64*4095, " ", 4*(104*64+64))))
	n = codeNeed(t, base(4, append(nested(64, nil, false), ins(api.EDiv))...))
	is(t, "behind it", []string{n.Paths, n.Terms, n.Queries}, []int{65, 128 + 65*2, 64 + 65})
	n = codeNeed(t, base(4, nested(16, list(ins(api.FCopy)), true)...))
	is(t, "16 in both", []string{n.Paths, n.Terms, n.Queries, n.Room}, []int{1 << 16, 2*(1<<16-1) + 2*1<<16, 1<<16 - 1, 4 * (16*104 + 64)})
	f := base(4, nested(65, list(ins(api.FRelease)), false)...)
	if n, e := Code(f); n != (api.Need{}) || e != api.ErrArg || flat.May(f) {
		t.Fatal("within 65 others: ", n, e)
	}
}
